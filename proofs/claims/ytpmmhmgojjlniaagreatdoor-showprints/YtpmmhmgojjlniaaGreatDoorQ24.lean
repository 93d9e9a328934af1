/- The document's Parse, over the contract of a choice. -/
import Derived.Test.YtpmmhmgojjlniaaGreatDoorQ05
import Derived.Test.YtpmmhmgojjlniaaGreatDoorQ22
import Derived.Test.YtpmmhmgojjlniaaGreatDoorQ23
namespace Go.Proofs.YtpmmhmgojjlniaaGreatDoor.Ar
open Go.RowKit Go.Sort
/-- An expression's eight cells in a block of their own. -/
def Box8 (w : World) (b : Nat) (y0 y1 y2 y3 y4 y5 y6 y7 : Value) : Prop := w.rangeAt b 0 [y0, y1, y2, y3, y4, y5, y6, y7]
theorem box8_of {w w' : World} {b : Nat} {y0 y1 y2 y3 y4 y5 y6 y7 : Value} (h : Box8 w b y0 y1 y2 y3 y4 y5 y6 y7) (hb : w'.heap[b]? = w.heap[b]?) : Box8 w' b y0 y1 y2 y3 y4 y5 y6 y7 :=
  fun j v hj => (World.cell?_of_block (a := ⟨b, 0 + j, none⟩) hb).trans (h j v hj)
theorem box8_below {w w' : World} {b : Nat} {y0 y1 y2 y3 y4 y5 y6 y7 : Value} (h : Box8 w b y0 y1 y2 y3 y4 y5 y6 y7) (hb : Below w.heap.size w w') : Box8 w' b y0 y1 y2 y3 y4 y5 y6 y7 :=
  box8_of h (hb.block b (block_lt_of_cell (h 0 _ rfl)))
theorem box8_at {w : World} {b : Nat} {y0 y1 y2 y3 y4 y5 y6 y7 : Value} (h : Box8 w b y0 y1 y2 y3 y4 y5 y6 y7) : w.cell? ⟨b, 0, none⟩ = some y0 ∧ w.cell? ⟨b, 1, none⟩ = some y1 ∧ w.cell? ⟨b, 2, none⟩ = some y2 ∧ w.cell? ⟨b, 3, none⟩ = some y3 ∧ w.cell? ⟨b, 4, none⟩ = some y4 ∧ w.cell? ⟨b, 5, none⟩ = some y5 ∧ w.cell? ⟨b, 6, none⟩ = some y6 ∧ w.cell? ⟨b, 7, none⟩ = some y7 := by
  have h0 := h 0 _ rfl
  have h1 := h 1 _ rfl
  have h2 := h 2 _ rfl
  have h3 := h 3 _ rfl
  have h4 := h 4 _ rfl
  have h5 := h 5 _ rfl
  have h6 := h 6 _ rfl
  have h7 := h 7 _ rfl
  simp only [Nat.zero_add] at h0 h1 h2 h3 h4 h5 h6 h7
  exact ⟨h0, h1, h2, h3, h4, h5, h6, h7⟩
theorem info32 : (Tryz.prog.info? 202).map (·.size) = some 8 := by kernel_rfl
theorem res_expr {fn : Func} {p a : Tmp} (h : fn.results = #[.cell p 202, .tmp a]) (tmps : Array Value) (w : World) (g : Nat) {y0 y1 y2 y3 y4 y5 y6 y7 va : Value}
    (hp : tmps.getD p undef = .pointer (some ⟨g, 0, none⟩)) (ha : tmps.getD a undef = va) (hg : Box8 w g y0 y1 y2 y3 y4 y5 y6 y7) :
    (results fn tmps).run Tryz.prog w = .ok (.tuple #[.agg #[y0, y1, y2, y3, y4, y5, y6, y7], va]) w := by
  have hp' : tmps[p]?.getD undef = .pointer (some ⟨g, 0, none⟩) := by simpa using hp
  have ha' : tmps[a]?.getD undef = va := by simpa using ha
  have hl := run_loadVar_mid (P := Tryz.prog) w g 0 202 _ _ hg Tryz.underlying202 rfl (by rw [info32]; rfl)
  simp [results, h, hp', ha', asAddr, hl]
abbrev zExpr (f : Bool) : Obj := .cells #[.bool f, .bool false, .int .i64 0, .bool false, .bool false, .slice none 0 0, .slice none 0 0, .slice none 0 0] 202
theorem exprGood_err {W w' : World} {R : Except Int Xp} {q : Int} {f l : Bool} {x0 x1 x2 x3 x4 x5 : Value} (hR : R = .error q) (hb : Below W.heap.size W w') (h1 : One6 x0 x1 x2 x3 x4 x5) : ExprGood W R (.returned (.tuple #[.agg #[.bool f, .bool l, x0, x1, x2, x3, x4, x5], .int .i64 q])) w' := by
  rw [hR]
  exact ⟨hb, f, l, x0, x1, x2, x3, x4, x5, h1, rfl⟩

set_option maxHeartbeats 8000000 in
set_option maxRecDepth 100000 in
theorem refParse_long (s : ByteArray) (hs : 64 < s.size) (W : World) : Calls Tryz.prog 139 #[.string s] W (ExprGood W (Px.parse s.data.toList)) := by
  have h1 : (64 : Int) < (s.size : Int) := by omega
  have HX : Hid (Px.parse s.data.toList = .error 2) := by
    show _ = _
    unfold Px.parse
    rw [if_pos (by rw [Array.length_toList]; exact hs)]
  generalize Px.parse s.data.toList = R at *
  go_enter Tryz.func139, Tryz.ntmps139
  go_wp2_with fail
  have HB := box8_below (box8 W (.bool false) (.bool false) (.int .i64 0) (.bool false) (.bool false) (.slice none 0 0) (.slice none 0 0) (.slice none 0 0)) (balloc (brefl _) (zExpr false))
  exact bodyPost_ret (res_expr Tryz.results139 _ _ W.heap.size rfl rfl HB) rfl (exprGood_err HX.out (balloc (balloc (brefl W) _) _) ⟨rfl, rfl, rfl, rfl, rfl, rfl⟩)
/-- Eight cells put into a block. -/
def put8 (w : World) (g : Nat) (y0 y1 y2 y3 y4 y5 y6 y7 : Value) : World := (((((((w.setCell ⟨g, 0, none⟩ y0).setCell ⟨g, 1, none⟩ y1).setCell ⟨g, 2, none⟩ y2).setCell ⟨g, 3, none⟩ y3).setCell ⟨g, 4, none⟩ y4).setCell ⟨g, 5, none⟩ y5).setCell ⟨g, 6, none⟩ y6).setCell ⟨g, 7, none⟩ y7
theorem put8_size (w : World) (g : Nat) (y0 y1 y2 y3 y4 y5 y6 y7 : Value) : (put8 w g y0 y1 y2 y3 y4 y5 y6 y7).heap.size = w.heap.size := by simp [put8]
theorem put8_other (w : World) (g : Nat) (y0 y1 y2 y3 y4 y5 y6 y7 : Value) (k : Nat) (h : k ≠ g) : (put8 w g y0 y1 y2 y3 y4 y5 y6 y7).heap[k]? = w.heap[k]? := by
  unfold put8
  rw [heap_setCell_ne _ _ _ _ _ h, heap_setCell_ne _ _ _ _ _ h, heap_setCell_ne _ _ _ _ _ h, heap_setCell_ne _ _ _ _ _ h, heap_setCell_ne _ _ _ _ _ h, heap_setCell_ne _ _ _ _ _ h, heap_setCell_ne _ _ _ _ _ h, heap_setCell_ne _ _ _ _ _ h]
theorem put8_below {W w : World} {g : Nat} (h : Below W.heap.size W w) (hg : W.heap.size ≤ g) (y0 y1 y2 y3 y4 y5 y6 y7 : Value) : Below W.heap.size W (put8 w g y0 y1 y2 y3 y4 y5 y6 y7) :=
  (((((((h.setCell (p := ⟨g, 0, none⟩) hg y0).setCell (p := ⟨g, 1, none⟩) hg y1).setCell (p := ⟨g, 2, none⟩) hg y2).setCell (p := ⟨g, 3, none⟩) hg y3).setCell (p := ⟨g, 4, none⟩) hg y4).setCell (p := ⟨g, 5, none⟩) hg y5).setCell (p := ⟨g, 6, none⟩) hg y6).setCell (p := ⟨g, 7, none⟩) hg y7
theorem put8_box {w : World} {g : Nat} {x0 x1 x2 x3 x4 x5 x6 x7 : Value} (h : Box8 w g x0 x1 x2 x3 x4 x5 x6 x7) (y0 y1 y2 y3 y4 y5 y6 y7 : Value) : Box8 (put8 w g y0 y1 y2 y3 y4 y5 y6 y7) g y0 y1 y2 y3 y4 y5 y6 y7 := by
  obtain ⟨c0, c1, c2, c3, c4, c5, c6, c7⟩ := box8_at h
  unfold put8
  intro j v hj
  rw [Nat.zero_add]
  match j, hj with
  | 0, hj => simp at hj; subst hj; simp [go_sem, c0]
  | 1, hj => simp at hj; subst hj; simp [go_sem, c1]
  | 2, hj => simp at hj; subst hj; simp [go_sem, c2]
  | 3, hj => simp at hj; subst hj; simp [go_sem, c3]
  | 4, hj => simp at hj; subst hj; simp [go_sem, c4]
  | 5, hj => simp at hj; subst hj; simp [go_sem, c5]
  | 6, hj => simp at hj; subst hj; simp [go_sem, c6]
  | 7, hj => simp at hj; subst hj; simp [go_sem, c7]

/-- A node put into an expression. -/
def putN (w : World) (g : Nat) (y0 y1 y2 y3 y4 y5 : Value) : World := (((((w.setCell ⟨g, 2, none⟩ y0).setCell ⟨g, 3, none⟩ y1).setCell ⟨g, 4, none⟩ y2).setCell ⟨g, 5, none⟩ y3).setCell ⟨g, 6, none⟩ y4).setCell ⟨g, 7, none⟩ y5
theorem putN_size (w : World) (g : Nat) (y0 y1 y2 y3 y4 y5 : Value) : (putN w g y0 y1 y2 y3 y4 y5).heap.size = w.heap.size := by simp [putN]
theorem putN_other (w : World) (g : Nat) (y0 y1 y2 y3 y4 y5 : Value) (k : Nat) (h : k ≠ g) : (putN w g y0 y1 y2 y3 y4 y5).heap[k]? = w.heap[k]? := by
  unfold putN
  rw [heap_setCell_ne _ _ _ _ _ h, heap_setCell_ne _ _ _ _ _ h, heap_setCell_ne _ _ _ _ _ h, heap_setCell_ne _ _ _ _ _ h, heap_setCell_ne _ _ _ _ _ h, heap_setCell_ne _ _ _ _ _ h]
theorem putN_below {W w : World} {g : Nat} (h : Below W.heap.size W w) (hg : W.heap.size ≤ g) (y0 y1 y2 y3 y4 y5 : Value) : Below W.heap.size W (putN w g y0 y1 y2 y3 y4 y5) :=
  (((((h.setCell (p := ⟨g, 2, none⟩) hg y0).setCell (p := ⟨g, 3, none⟩) hg y1).setCell (p := ⟨g, 4, none⟩) hg y2).setCell (p := ⟨g, 5, none⟩) hg y3).setCell (p := ⟨g, 6, none⟩) hg y4).setCell (p := ⟨g, 7, none⟩) hg y5
theorem exprGood_ok {W w' : World} {R : Except Int Xp} {f l : Bool} {rows : List (List Nd)} {x0 x1 x2 x3 x4 x5 : Value} (hR : R = .ok (f, l, rows)) (hb : Below W.heap.size W w') (ht : Tr.At w' (.mk 2 false false [] [] (Nd.trRows rows)) [x0, x1, x2, x3, x4, x5]) : ExprGood W R (.returned (.tuple #[.agg #[.bool f, .bool l, x0, x1, x2, x3, x4, x5], .int .i64 0])) w' := by
  rw [hR]
  exact ⟨hb, x0, x1, x2, x3, x4, x5, ht, rfl⟩
set_option maxHeartbeats 8000000 in
set_option maxRecDepth 100000 in
theorem refParse_rest (s : ByteArray) (hs : s.size ≤ 64) (hc : ChoiceOk s 8 1) (h94 : Px.isAt s.data.toList 94 = false) (W : World) : Calls Tryz.prog 139 #[.string s] W (ExprGood W (Px.parse s.data.toList)) := by
  have h1 : ¬ (64 : Int) < (s.size : Int) := by omega
  have HX : Hid (Px.parse s.data.toList = (match Px.choice 8 s.data.toList with
      | .error e => .error e
      | .ok (c, k) => if Px.skip (if Px.isAt k 36 = true then Px.next k else k) = [] then .ok (false, Px.isAt k 36, c) else .error 4)) := by
    show _ = _
    unfold Px.parse
    rw [if_neg (by rw [Array.length_toList]; exact Nat.not_lt.2 hs), if_neg (by rw [h94]; decide), h94]
    cases Px.choice 8 s.data.toList <;> rfl
  have C1 := hide (fun w => is_is s (by omega) 0 s.data.toList (Pos.start s) 94 94 rfl false h94 w)
  have CC := hide (hc 0 s.data.toList (Pos.start s) ((W.alloc (zExpr false)).alloc (zExpr false)))
  have B0 := hide (balloc (balloc (brefl W) (zExpr false)) (zExpr false))
  have HC0 := hide (box8_below (box8 W (.bool false) (.bool false) (.int .i64 0) (.bool false) (.bool false) (.slice none 0 0) (.slice none 0 0) (.slice none 0 0)) (balloc (brefl _) (zExpr false)))
  have HD0 := hide (box8 (W.alloc (zExpr false)) (.bool false) (.bool false) (.int .i64 0) (.bool false) (.bool false) (.slice none 0 0) (.slice none 0 0) (.slice none 0 0))
  rw [size_alloc] at HD0
  generalize Px.parse s.data.toList = R at *
  clear hc h94
  cases hch : Px.choice 8 s.data.toList with
  | error q =>
    have HX2 : Hid (R = .error q) := by show _ = _; rw [HX.out, hch]
    have hq := choice_ne hch
    have hq' : (q == 0) = false := by simpa using hq
    rw [hch] at CC
    clear hch HX
    go_enter Tryz.func139, Tryz.ntmps139
    go_wp2_with fail
    refine (C1.out _).mono ?_
    rintro e w2 ⟨rfl, hw⟩
    have hw' := hw.symm
    clear hw
    subst hw'
    go_wp2_with fail
    refine CC.out.mono ?_
    rintro e w2 ⟨hb2, x0, x1, x2, x3, x4, x5, j, ⟨o0, o1, o2, o3, o4, o5⟩, rfl⟩
    have s0 := fun w a m => run_store Tryz.prog w a x0 m o0
    have s1 := fun w a m => run_store Tryz.prog w a x1 m o1
    have s2 := fun w a m => run_store Tryz.prog w a x2 m o2
    have s3 := fun w a m => run_store Tryz.prog w a x3 m o3
    have s4 := fun w a m => run_store Tryz.prog w a x4 m o4
    have s5 := fun w a m => run_store Tryz.prog w a x5 m o5
    have B2 := hide (bthen B0.out hb2)
    have hlt : W.heap.size < w2.heap.size := by have := hb2.size; simp only [size_alloc] at this; omega
    have hne : w2.heap.size ≠ W.heap.size := by omega
    have hne2 : W.heap.size ≠ w2.heap.size := by omega
    have HC2 := hide (box8_below HC0.out hb2)
    obtain ⟨c0, c1, c2, c3, c4, c5, c6, c7⟩ := box8_at HC2.out
    have fr : ∀ o, w2.frozen? ⟨W.heap.size, o, none⟩ = false := fun o => (hb2.frozen (p := ⟨W.heap.size, o, none⟩) (by simp only [size_alloc]; omega)).trans (by simp [go_sem])
    have f0 := fr 0
    have f1 := fr 1
    have f2 := fr 2
    have f3 := fr 3
    have f4 := fr 4
    have f5 := fr 5
    have f6 := fr 6
    have f7 := fr 7
    clear fr hb2
    go_wp2_with fail
    change bodyPost Tryz.prog Tryz.f139 (ExprGood W R) Exit.ret _ ((put8 w2 W.heap.size (.bool false) (.bool false) (.int .i64 0) (.bool false) (.bool false) (.slice none 0 0) (.slice none 0 0) (.slice none 0 0)).alloc (.cells #[x0, x1, x2, x3, x4, x5] 200))
    refine bodyPost_ret (v := .tuple #[.agg #[.bool false, .bool false, .int .i64 0, .bool false, .bool false, .slice none 0 0, .slice none 0 0, .slice none 0 0], .int .i64 q]) ?_ rfl (exprGood_err HX2.out (balloc (put8_below B2.out (Nat.le_refl _) _ _ _ _ _ _ _ _) _) ⟨rfl, rfl, rfl, rfl, rfl, rfl⟩)
    exact res_expr Tryz.results139 _ _ W.heap.size rfl rfl (box8_below (put8_box HC2.out _ _ _ _ _ _ _ _) (balloc (brefl _) _))
  | ok z =>
    obtain ⟨c, k⟩ := z
    rw [hch] at HX CC
    simp only at HX
    clear hch
    go_enter Tryz.func139, Tryz.ntmps139
    go_wp2_with fail
    refine (C1.out _).mono ?_
    rintro e w2 ⟨rfl, hw⟩
    have hw' := hw.symm
    clear hw
    subst hw'
    go_wp2_with fail
    refine CC.out.mono ?_
    rintro e w2 ⟨hb2, j, x0, x1, x2, x3, x4, x5, hj, ht, rfl⟩
    have HT := hide ht
    have HJ := hide hj
    obtain ⟨o0, o1, o2, o3, o4, o5⟩ := Tr.one ht.at
    have s0 := fun w a m => run_store Tryz.prog w a x0 m o0
    have s1 := fun w a m => run_store Tryz.prog w a x1 m o1
    have s2 := fun w a m => run_store Tryz.prog w a x2 m o2
    have s3 := fun w a m => run_store Tryz.prog w a x3 m o3
    have s4 := fun w a m => run_store Tryz.prog w a x4 m o4
    have s5 := fun w a m => run_store Tryz.prog w a x5 m o5
    have B2 := hide (bthen B0.out hb2)
    have hlt : W.heap.size < w2.heap.size := by have := hb2.size; simp only [size_alloc] at this; omega
    have hne : w2.heap.size ≠ W.heap.size := by omega
    have hne2 : W.heap.size ≠ w2.heap.size := by omega
    have HC2 := hide (box8_below HC0.out hb2)
    have hlt1 : W.heap.size + 1 < w2.heap.size := by have := hb2.size; simp only [size_alloc] at this; omega
    have hne3 : w2.heap.size ≠ W.heap.size + 1 := by omega
    have hne4 : W.heap.size + 1 ≠ w2.heap.size := by omega
    obtain ⟨d0, d1, d2, d3, d4, d5, d6, d7⟩ := box8_at (box8_below HD0.out hb2)
    have gr : ∀ o, w2.frozen? ⟨W.heap.size + 1, o, none⟩ = false := fun o => (hb2.frozen (p := ⟨W.heap.size + 1, o, none⟩) (by simp only [size_alloc]; omega)).trans (by simp [go_sem])
    have g1 := gr 1
    have g2 := gr 2
    have g3 := gr 3
    have g4 := gr 4
    have g5 := gr 5
    have g6 := gr 6
    have g7 := gr 7
    clear gr
    obtain ⟨c0, c1, c2, c3, c4, c5, c6, c7⟩ := box8_at HC2.out
    have fr : ∀ o, w2.frozen? ⟨W.heap.size, o, none⟩ = false := fun o => (hb2.frozen (p := ⟨W.heap.size, o, none⟩) (by simp only [size_alloc]; omega)).trans (by simp [go_sem])
    have f0 := fr 0
    have f1 := fr 1
    have f2 := fr 2
    have f3 := fr 3
    have f4 := fr 4
    have f5 := fr 5
    have f6 := fr 6
    have f7 := fr 7
    have hjs := hj.2
    clear fr hb2 ht hj
    go_wp2_with fail
    cases h36 : Px.isAt k 36 with
    | false =>
      have CI := hide (fun w => is_is s (by omega) j k HJ.out 36 36 rfl false h36 w)
      have CS := hide (fun w => skip_is s (by omega) j k HJ.out _ HJ.out.skip w)
      rw [h36] at HX
      simp only [Bool.false_eq_true, if_false] at HX
      have hlen : (Px.skip k).length ≤ s.size := by have := (Px.skip_suf k).length_le; have := HJ.out.len; omega
      clear h36
      refine (CI.out _).mono ?_
      rintro e w3 ⟨rfl, hw⟩
      have hw' := hw.symm
      clear hw
      subst hw'
      by_cases hk : Px.skip k = []
      · have HX2 : Hid (R = .ok (false, false, c)) := by show _ = _; rw [HX.out, if_pos hk]
        have hm : s.size - (Px.skip k).length = s.size := by rw [hk]; rfl
        rw [hm] at CS
        clear hk hm HX hlen
        go_wp2_with fail
        refine (CS.out _).mono ?_
        rintro e w3 ⟨rfl, hw⟩
        have hw' := hw.symm
        clear hw
        subst hw'
        go_wp2_with fail
        have HOT : ∀ k, k ≠ W.heap.size + 1 → (putN w2 (W.heap.size + 1) x0 x1 x2 x3 x4 x5).heap[k]? = w2.heap[k]? := fun k hk => by
          exact putN_other w2 (W.heap.size + 1) x0 x1 x2 x3 x4 x5 k hk
        have HSZ : (putN w2 (W.heap.size + 1) x0 x1 x2 x3 x4 x5).heap.size = w2.heap.size := by
          exact putN_size _ _ _ _ _ _ _ _
        have HBX := hide (put8_box (box8_of HC2.out (HOT _ (by omega))) (.bool false) (.bool false) x0 x1 x2 x3 x4 x5)
        have HBL := hide (balloc (put8_below (putN_below B2.out (Nat.le_succ _) x0 x1 x2 x3 x4 x5) (Nat.le_refl _) (.bool false) (.bool false) x0 x1 x2 x3 x4 x5) (.cells #[x0, x1, x2, x3, x4, x5] 200))
        have HAT : Hid (Tr.At ((put8 (putN w2 (W.heap.size + 1) x0 x1 x2 x3 x4 x5) W.heap.size (.bool false) (.bool false) x0 x1 x2 x3 x4 x5).alloc (.cells #[x0, x1, x2, x3, x4, x5] 200)) (.mk 2 false false [] [] (Nd.trRows c)) [x0, x1, x2, x3, x4, x5]) := by
          have ho := HT.out
          rw [Nd.tr] at ho
          refine ho _ fun k hk hk2 => ?_
          simp only [size_alloc] at hk
          rw [heap_alloc_lt _ _ k (by rw [put8_size, HSZ]; exact hk2), put8_other _ _ _ _ _ _ _ _ _ _ k (by omega)]
          exact HOT k (by omega)
        change bodyPost Tryz.prog Tryz.f139 (ExprGood W R) Exit.ret _ ((put8 (putN w2 (W.heap.size + 1) x0 x1 x2 x3 x4 x5) W.heap.size (.bool false) (.bool false) x0 x1 x2 x3 x4 x5).alloc (.cells #[x0, x1, x2, x3, x4, x5] 200))
        refine bodyPost_ret (v := .tuple #[.agg #[.bool false, .bool false, x0, x1, x2, x3, x4, x5], .int .i64 0]) ?_ rfl (exprGood_ok HX2.out HBL.out HAT.out)
        exact res_expr Tryz.results139 _ _ W.heap.size rfl rfl (box8_below HBX.out (balloc (brefl _) _))
      · have HX2 : Hid (R = .error 4) := by show _ = _; rw [HX.out, if_neg hk]
        have hm : s.size - (Px.skip k).length ≠ s.size := by have : 0 < (Px.skip k).length := List.length_pos_iff.2 hk
                                                             omega
        generalize s.size - (Px.skip k).length = m at CS hm
        have hm' : ((m : Int) == (s.size : Int)) = false := by simp; omega
        clear hk HX hlen
        go_wp2_with fail
        refine (CS.out _).mono ?_
        rintro e w3 ⟨rfl, hw⟩
        have hw' := hw.symm
        clear hw
        subst hw'
        go_wp2_with fail
        have HOT : ∀ k, k ≠ W.heap.size + 1 → (putN w2 (W.heap.size + 1) x0 x1 x2 x3 x4 x5).heap[k]? = w2.heap[k]? := fun k hk => by
          exact putN_other w2 (W.heap.size + 1) x0 x1 x2 x3 x4 x5 k hk
        have HSZ : (putN w2 (W.heap.size + 1) x0 x1 x2 x3 x4 x5).heap.size = w2.heap.size := by
          exact putN_size _ _ _ _ _ _ _ _
        have HBX := hide (put8_box (box8_of HC2.out (HOT _ (by omega))) (.bool false) (.bool false) (.int .i64 0) (.bool false) (.bool false) (.slice none 0 0) (.slice none 0 0) (.slice none 0 0))
        have HBL := hide (balloc (put8_below (putN_below B2.out (Nat.le_succ _) x0 x1 x2 x3 x4 x5) (Nat.le_refl _) (.bool false) (.bool false) (.int .i64 0) (.bool false) (.bool false) (.slice none 0 0) (.slice none 0 0) (.slice none 0 0)) (.cells #[x0, x1, x2, x3, x4, x5] 200))
        change bodyPost Tryz.prog Tryz.f139 (ExprGood W R) Exit.ret _ ((put8 (putN w2 (W.heap.size + 1) x0 x1 x2 x3 x4 x5) W.heap.size (.bool false) (.bool false) (.int .i64 0) (.bool false) (.bool false) (.slice none 0 0) (.slice none 0 0) (.slice none 0 0)).alloc (.cells #[x0, x1, x2, x3, x4, x5] 200))
        refine bodyPost_ret (v := .tuple #[.agg #[.bool false, .bool false, .int .i64 0, .bool false, .bool false, .slice none 0 0, .slice none 0 0, .slice none 0 0], .int .i64 4]) ?_ rfl (exprGood_err HX2.out HBL.out ⟨rfl, rfl, rfl, rfl, rfl, rfl⟩)
        exact res_expr Tryz.results139 _ _ W.heap.size rfl rfl (box8_below HBX.out (balloc (brefl _) _))
    | true =>
      have CI := hide (fun w => is_is s (by omega) j k HJ.out 36 36 rfl true h36 w)
      have CS0 := hide (fun w => skip_is s (by omega) j k HJ.out _ HJ.out.skip w)
      have HJ2 := hide (HJ.out.nextAt h36)
      have hsk : s.size - (Px.skip k).length ≤ 64 := by omega
      generalize s.size - (Px.skip k).length = m2 at CS0 HJ2 hsk
      have CS := hide (fun w => skip_is s (by omega) (m2 + 1) (Px.next k) HJ2.out _ HJ2.out.skip w)
      rw [h36] at HX
      simp only [if_true] at HX
      have hlen : (Px.skip (Px.next k)).length ≤ s.size := by have := (Px.skip_suf (Px.next k)).length_le; have := HJ2.out.len; omega
      clear h36
      refine (CI.out _).mono ?_
      rintro e w3 ⟨rfl, hw⟩
      have hw' := hw.symm
      clear hw
      subst hw'
      go_wp2_with fail
      refine (CS0.out _).mono ?_
      rintro e w3 ⟨rfl, hw⟩
      have hw' := hw.symm
      clear hw
      subst hw'
      by_cases hk : Px.skip (Px.next k) = []
      · have HX2 : Hid (R = .ok (false, true, c)) := by show _ = _; rw [HX.out, if_pos hk]
        have hm : s.size - (Px.skip (Px.next k)).length = s.size := by rw [hk]; rfl
        rw [hm] at CS
        clear hk hm HX hlen
        go_wp2_with fail
        refine (CS.out _).mono ?_
        rintro e w3 ⟨rfl, hw⟩
        have hw' := hw.symm
        clear hw
        subst hw'
        go_wp2_with fail
        have HOT : ∀ k, k ≠ W.heap.size + 1 → ((putN w2 (W.heap.size + 1) x0 x1 x2 x3 x4 x5).setCell ⟨W.heap.size + 1, 1, none⟩ (.bool true)).heap[k]? = w2.heap[k]? := fun k hk => by
          rw [heap_setCell_ne _ _ _ _ _ hk]
          exact putN_other w2 (W.heap.size + 1) x0 x1 x2 x3 x4 x5 k hk
        have HSZ : ((putN w2 (W.heap.size + 1) x0 x1 x2 x3 x4 x5).setCell ⟨W.heap.size + 1, 1, none⟩ (.bool true)).heap.size = w2.heap.size := by
          rw [size_setCell]; exact putN_size _ _ _ _ _ _ _ _
        have HBX := hide (put8_box (box8_of HC2.out (HOT _ (by omega))) (.bool false) (.bool true) x0 x1 x2 x3 x4 x5)
        have HBL := hide (balloc (put8_below (Below.setCell (putN_below B2.out (Nat.le_succ _) x0 x1 x2 x3 x4 x5) (p := ⟨W.heap.size + 1, 1, none⟩) (Nat.le_succ _) (.bool true)) (Nat.le_refl _) (.bool false) (.bool true) x0 x1 x2 x3 x4 x5) (.cells #[x0, x1, x2, x3, x4, x5] 200))
        have HAT : Hid (Tr.At ((put8 ((putN w2 (W.heap.size + 1) x0 x1 x2 x3 x4 x5).setCell ⟨W.heap.size + 1, 1, none⟩ (.bool true)) W.heap.size (.bool false) (.bool true) x0 x1 x2 x3 x4 x5).alloc (.cells #[x0, x1, x2, x3, x4, x5] 200)) (.mk 2 false false [] [] (Nd.trRows c)) [x0, x1, x2, x3, x4, x5]) := by
          have ho := HT.out
          rw [Nd.tr] at ho
          refine ho _ fun k hk hk2 => ?_
          simp only [size_alloc] at hk
          rw [heap_alloc_lt _ _ k (by rw [put8_size, HSZ]; exact hk2), put8_other _ _ _ _ _ _ _ _ _ _ k (by omega)]
          exact HOT k (by omega)
        change bodyPost Tryz.prog Tryz.f139 (ExprGood W R) Exit.ret _ ((put8 ((putN w2 (W.heap.size + 1) x0 x1 x2 x3 x4 x5).setCell ⟨W.heap.size + 1, 1, none⟩ (.bool true)) W.heap.size (.bool false) (.bool true) x0 x1 x2 x3 x4 x5).alloc (.cells #[x0, x1, x2, x3, x4, x5] 200))
        refine bodyPost_ret (v := .tuple #[.agg #[.bool false, .bool true, x0, x1, x2, x3, x4, x5], .int .i64 0]) ?_ rfl (exprGood_ok HX2.out HBL.out HAT.out)
        exact res_expr Tryz.results139 _ _ W.heap.size rfl rfl (box8_below HBX.out (balloc (brefl _) _))
      · have HX2 : Hid (R = .error 4) := by show _ = _; rw [HX.out, if_neg hk]
        have hm : s.size - (Px.skip (Px.next k)).length ≠ s.size := by have : 0 < (Px.skip (Px.next k)).length := List.length_pos_iff.2 hk
                                                                       omega
        generalize s.size - (Px.skip (Px.next k)).length = m at CS hm
        have hm' : ((m : Int) == (s.size : Int)) = false := by simp; omega
        clear hk HX hlen
        go_wp2_with fail
        refine (CS.out _).mono ?_
        rintro e w3 ⟨rfl, hw⟩
        have hw' := hw.symm
        clear hw
        subst hw'
        go_wp2_with fail
        have HOT : ∀ k, k ≠ W.heap.size + 1 → ((putN w2 (W.heap.size + 1) x0 x1 x2 x3 x4 x5).setCell ⟨W.heap.size + 1, 1, none⟩ (.bool true)).heap[k]? = w2.heap[k]? := fun k hk => by
          rw [heap_setCell_ne _ _ _ _ _ hk]
          exact putN_other w2 (W.heap.size + 1) x0 x1 x2 x3 x4 x5 k hk
        have HSZ : ((putN w2 (W.heap.size + 1) x0 x1 x2 x3 x4 x5).setCell ⟨W.heap.size + 1, 1, none⟩ (.bool true)).heap.size = w2.heap.size := by
          rw [size_setCell]; exact putN_size _ _ _ _ _ _ _ _
        have HBX := hide (put8_box (box8_of HC2.out (HOT _ (by omega))) (.bool false) (.bool false) (.int .i64 0) (.bool false) (.bool false) (.slice none 0 0) (.slice none 0 0) (.slice none 0 0))
        have HBL := hide (balloc (put8_below (Below.setCell (putN_below B2.out (Nat.le_succ _) x0 x1 x2 x3 x4 x5) (p := ⟨W.heap.size + 1, 1, none⟩) (Nat.le_succ _) (.bool true)) (Nat.le_refl _) (.bool false) (.bool false) (.int .i64 0) (.bool false) (.bool false) (.slice none 0 0) (.slice none 0 0) (.slice none 0 0)) (.cells #[x0, x1, x2, x3, x4, x5] 200))
        change bodyPost Tryz.prog Tryz.f139 (ExprGood W R) Exit.ret _ ((put8 ((putN w2 (W.heap.size + 1) x0 x1 x2 x3 x4 x5).setCell ⟨W.heap.size + 1, 1, none⟩ (.bool true)) W.heap.size (.bool false) (.bool false) (.int .i64 0) (.bool false) (.bool false) (.slice none 0 0) (.slice none 0 0) (.slice none 0 0)).alloc (.cells #[x0, x1, x2, x3, x4, x5] 200))
        refine bodyPost_ret (v := .tuple #[.agg #[.bool false, .bool false, .int .i64 0, .bool false, .bool false, .slice none 0 0, .slice none 0 0, .slice none 0 0], .int .i64 4]) ?_ rfl (exprGood_err HX2.out HBL.out ⟨rfl, rfl, rfl, rfl, rfl, rfl⟩)
        exact res_expr Tryz.results139 _ _ W.heap.size rfl rfl (box8_below HBX.out (balloc (brefl _) _))
set_option maxHeartbeats 8000000 in
set_option maxRecDepth 100000 in
theorem refParse_caret (s : ByteArray) (hs : s.size ≤ 64) (hc : ChoiceOk s 8 1) (h94 : Px.isAt s.data.toList 94 = true) (W : World) : Calls Tryz.prog 139 #[.string s] W (ExprGood W (Px.parse s.data.toList)) := by
  have h1 : ¬ (64 : Int) < (s.size : Int) := by omega
  have HX : Hid (Px.parse s.data.toList = (match Px.choice 8 (Px.next s.data.toList) with
      | .error e => .error e
      | .ok (c, k) => if Px.skip (if Px.isAt k 36 = true then Px.next k else k) = [] then .ok (true, Px.isAt k 36, c) else .error 4)) := by
    show _ = _
    unfold Px.parse
    rw [if_neg (by rw [Array.length_toList]; exact Nat.not_lt.2 hs), if_pos h94, h94]
    cases Px.choice 8 (Px.next s.data.toList) <;> rfl
  have C1 := hide (fun w => is_is s (by omega) 0 s.data.toList (Pos.start s) 94 94 rfl true h94 w)
  have CP := hide (fun w => skip_is s (by omega) 0 s.data.toList (Pos.start s) _ (Pos.start s).skip w)
  have CC := hide (hc _ (Px.next s.data.toList) ((Pos.start s).nextAt h94) ((W.alloc (zExpr false)).alloc (zExpr true)))
  have hsk0 : s.size - (Px.skip s.data.toList).length ≤ 64 := by omega
  generalize s.size - (Px.skip s.data.toList).length = m0 at CP CC hsk0
  have B0 := hide (balloc (balloc (brefl W) (zExpr false)) (zExpr true))
  have HC0 := hide (box8_below (box8 W (.bool false) (.bool false) (.int .i64 0) (.bool false) (.bool false) (.slice none 0 0) (.slice none 0 0) (.slice none 0 0)) (balloc (brefl _) (zExpr true)))
  have HD0 := hide (box8 (W.alloc (zExpr false)) (.bool true) (.bool false) (.int .i64 0) (.bool false) (.bool false) (.slice none 0 0) (.slice none 0 0) (.slice none 0 0))
  rw [size_alloc] at HD0
  generalize Px.parse s.data.toList = R at *
  clear hc h94
  cases hch : Px.choice 8 (Px.next s.data.toList) with
  | error q =>
    have HX2 : Hid (R = .error q) := by show _ = _; rw [HX.out, hch]
    have hq := choice_ne hch
    have hq' : (q == 0) = false := by simpa using hq
    rw [hch] at CC
    clear hch HX
    go_enter Tryz.func139, Tryz.ntmps139
    go_wp2_with fail
    refine (C1.out _).mono ?_
    rintro e w2 ⟨rfl, hw⟩
    have hw' := hw.symm
    clear hw
    subst hw'
    go_wp2_with fail
    refine (CP.out _).mono ?_
    rintro e w2 ⟨rfl, hw⟩
    have hw' := hw.symm
    clear hw
    subst hw'
    go_wp2_with fail
    refine CC.out.mono ?_
    rintro e w2 ⟨hb2, x0, x1, x2, x3, x4, x5, j, ⟨o0, o1, o2, o3, o4, o5⟩, rfl⟩
    have s0 := fun w a m => run_store Tryz.prog w a x0 m o0
    have s1 := fun w a m => run_store Tryz.prog w a x1 m o1
    have s2 := fun w a m => run_store Tryz.prog w a x2 m o2
    have s3 := fun w a m => run_store Tryz.prog w a x3 m o3
    have s4 := fun w a m => run_store Tryz.prog w a x4 m o4
    have s5 := fun w a m => run_store Tryz.prog w a x5 m o5
    have B2 := hide (bthen B0.out hb2)
    have hlt : W.heap.size < w2.heap.size := by have := hb2.size; simp only [size_alloc] at this; omega
    have hne : w2.heap.size ≠ W.heap.size := by omega
    have hne2 : W.heap.size ≠ w2.heap.size := by omega
    have HC2 := hide (box8_below HC0.out hb2)
    obtain ⟨c0, c1, c2, c3, c4, c5, c6, c7⟩ := box8_at HC2.out
    have fr : ∀ o, w2.frozen? ⟨W.heap.size, o, none⟩ = false := fun o => (hb2.frozen (p := ⟨W.heap.size, o, none⟩) (by simp only [size_alloc]; omega)).trans (by simp [go_sem])
    have f0 := fr 0
    have f1 := fr 1
    have f2 := fr 2
    have f3 := fr 3
    have f4 := fr 4
    have f5 := fr 5
    have f6 := fr 6
    have f7 := fr 7
    clear fr hb2
    go_wp2_with fail
    change bodyPost Tryz.prog Tryz.f139 (ExprGood W R) Exit.ret _ ((put8 w2 W.heap.size (.bool false) (.bool false) (.int .i64 0) (.bool false) (.bool false) (.slice none 0 0) (.slice none 0 0) (.slice none 0 0)).alloc (.cells #[x0, x1, x2, x3, x4, x5] 200))
    refine bodyPost_ret (v := .tuple #[.agg #[.bool false, .bool false, .int .i64 0, .bool false, .bool false, .slice none 0 0, .slice none 0 0, .slice none 0 0], .int .i64 q]) ?_ rfl (exprGood_err HX2.out (balloc (put8_below B2.out (Nat.le_refl _) _ _ _ _ _ _ _ _) _) ⟨rfl, rfl, rfl, rfl, rfl, rfl⟩)
    exact res_expr Tryz.results139 _ _ W.heap.size rfl rfl (box8_below (put8_box HC2.out _ _ _ _ _ _ _ _) (balloc (brefl _) _))
  | ok z =>
    obtain ⟨c, k⟩ := z
    rw [hch] at HX CC
    simp only at HX
    clear hch
    go_enter Tryz.func139, Tryz.ntmps139
    go_wp2_with fail
    refine (C1.out _).mono ?_
    rintro e w2 ⟨rfl, hw⟩
    have hw' := hw.symm
    clear hw
    subst hw'
    go_wp2_with fail
    refine (CP.out _).mono ?_
    rintro e w2 ⟨rfl, hw⟩
    have hw' := hw.symm
    clear hw
    subst hw'
    go_wp2_with fail
    refine CC.out.mono ?_
    rintro e w2 ⟨hb2, j, x0, x1, x2, x3, x4, x5, hj, ht, rfl⟩
    have HT := hide ht
    have HJ := hide hj
    obtain ⟨o0, o1, o2, o3, o4, o5⟩ := Tr.one ht.at
    have s0 := fun w a m => run_store Tryz.prog w a x0 m o0
    have s1 := fun w a m => run_store Tryz.prog w a x1 m o1
    have s2 := fun w a m => run_store Tryz.prog w a x2 m o2
    have s3 := fun w a m => run_store Tryz.prog w a x3 m o3
    have s4 := fun w a m => run_store Tryz.prog w a x4 m o4
    have s5 := fun w a m => run_store Tryz.prog w a x5 m o5
    have B2 := hide (bthen B0.out hb2)
    have hlt : W.heap.size < w2.heap.size := by have := hb2.size; simp only [size_alloc] at this; omega
    have hne : w2.heap.size ≠ W.heap.size := by omega
    have hne2 : W.heap.size ≠ w2.heap.size := by omega
    have HC2 := hide (box8_below HC0.out hb2)
    have hlt1 : W.heap.size + 1 < w2.heap.size := by have := hb2.size; simp only [size_alloc] at this; omega
    have hne3 : w2.heap.size ≠ W.heap.size + 1 := by omega
    have hne4 : W.heap.size + 1 ≠ w2.heap.size := by omega
    obtain ⟨d0, d1, d2, d3, d4, d5, d6, d7⟩ := box8_at (box8_below HD0.out hb2)
    have gr : ∀ o, w2.frozen? ⟨W.heap.size + 1, o, none⟩ = false := fun o => (hb2.frozen (p := ⟨W.heap.size + 1, o, none⟩) (by simp only [size_alloc]; omega)).trans (by simp [go_sem])
    have g1 := gr 1
    have g2 := gr 2
    have g3 := gr 3
    have g4 := gr 4
    have g5 := gr 5
    have g6 := gr 6
    have g7 := gr 7
    clear gr
    obtain ⟨c0, c1, c2, c3, c4, c5, c6, c7⟩ := box8_at HC2.out
    have fr : ∀ o, w2.frozen? ⟨W.heap.size, o, none⟩ = false := fun o => (hb2.frozen (p := ⟨W.heap.size, o, none⟩) (by simp only [size_alloc]; omega)).trans (by simp [go_sem])
    have f0 := fr 0
    have f1 := fr 1
    have f2 := fr 2
    have f3 := fr 3
    have f4 := fr 4
    have f5 := fr 5
    have f6 := fr 6
    have f7 := fr 7
    have hjs := hj.2
    clear fr hb2 ht hj
    go_wp2_with fail
    cases h36 : Px.isAt k 36 with
    | false =>
      have CI := hide (fun w => is_is s (by omega) j k HJ.out 36 36 rfl false h36 w)
      have CS := hide (fun w => skip_is s (by omega) j k HJ.out _ HJ.out.skip w)
      rw [h36] at HX
      simp only [Bool.false_eq_true, if_false] at HX
      have hlen : (Px.skip k).length ≤ s.size := by have := (Px.skip_suf k).length_le; have := HJ.out.len; omega
      clear h36
      refine (CI.out _).mono ?_
      rintro e w3 ⟨rfl, hw⟩
      have hw' := hw.symm
      clear hw
      subst hw'
      by_cases hk : Px.skip k = []
      · have HX2 : Hid (R = .ok (true, false, c)) := by show _ = _; rw [HX.out, if_pos hk]
        have hm : s.size - (Px.skip k).length = s.size := by rw [hk]; rfl
        rw [hm] at CS
        clear hk hm HX hlen
        go_wp2_with fail
        refine (CS.out _).mono ?_
        rintro e w3 ⟨rfl, hw⟩
        have hw' := hw.symm
        clear hw
        subst hw'
        go_wp2_with fail
        have HOT : ∀ k, k ≠ W.heap.size + 1 → (putN w2 (W.heap.size + 1) x0 x1 x2 x3 x4 x5).heap[k]? = w2.heap[k]? := fun k hk => by
          exact putN_other w2 (W.heap.size + 1) x0 x1 x2 x3 x4 x5 k hk
        have HSZ : (putN w2 (W.heap.size + 1) x0 x1 x2 x3 x4 x5).heap.size = w2.heap.size := by
          exact putN_size _ _ _ _ _ _ _ _
        have HBX := hide (put8_box (box8_of HC2.out (HOT _ (by omega))) (.bool true) (.bool false) x0 x1 x2 x3 x4 x5)
        have HBL := hide (balloc (put8_below (putN_below B2.out (Nat.le_succ _) x0 x1 x2 x3 x4 x5) (Nat.le_refl _) (.bool true) (.bool false) x0 x1 x2 x3 x4 x5) (.cells #[x0, x1, x2, x3, x4, x5] 200))
        have HAT : Hid (Tr.At ((put8 (putN w2 (W.heap.size + 1) x0 x1 x2 x3 x4 x5) W.heap.size (.bool true) (.bool false) x0 x1 x2 x3 x4 x5).alloc (.cells #[x0, x1, x2, x3, x4, x5] 200)) (.mk 2 false false [] [] (Nd.trRows c)) [x0, x1, x2, x3, x4, x5]) := by
          have ho := HT.out
          rw [Nd.tr] at ho
          refine ho _ fun k hk hk2 => ?_
          simp only [size_alloc] at hk
          rw [heap_alloc_lt _ _ k (by rw [put8_size, HSZ]; exact hk2), put8_other _ _ _ _ _ _ _ _ _ _ k (by omega)]
          exact HOT k (by omega)
        change bodyPost Tryz.prog Tryz.f139 (ExprGood W R) Exit.ret _ ((put8 (putN w2 (W.heap.size + 1) x0 x1 x2 x3 x4 x5) W.heap.size (.bool true) (.bool false) x0 x1 x2 x3 x4 x5).alloc (.cells #[x0, x1, x2, x3, x4, x5] 200))
        refine bodyPost_ret (v := .tuple #[.agg #[.bool true, .bool false, x0, x1, x2, x3, x4, x5], .int .i64 0]) ?_ rfl (exprGood_ok HX2.out HBL.out HAT.out)
        exact res_expr Tryz.results139 _ _ W.heap.size rfl rfl (box8_below HBX.out (balloc (brefl _) _))
      · have HX2 : Hid (R = .error 4) := by show _ = _; rw [HX.out, if_neg hk]
        have hm : s.size - (Px.skip k).length ≠ s.size := by have : 0 < (Px.skip k).length := List.length_pos_iff.2 hk
                                                             omega
        generalize s.size - (Px.skip k).length = m at CS hm
        have hm' : ((m : Int) == (s.size : Int)) = false := by simp; omega
        clear hk HX hlen
        go_wp2_with fail
        refine (CS.out _).mono ?_
        rintro e w3 ⟨rfl, hw⟩
        have hw' := hw.symm
        clear hw
        subst hw'
        go_wp2_with fail
        have HOT : ∀ k, k ≠ W.heap.size + 1 → (putN w2 (W.heap.size + 1) x0 x1 x2 x3 x4 x5).heap[k]? = w2.heap[k]? := fun k hk => by
          exact putN_other w2 (W.heap.size + 1) x0 x1 x2 x3 x4 x5 k hk
        have HSZ : (putN w2 (W.heap.size + 1) x0 x1 x2 x3 x4 x5).heap.size = w2.heap.size := by
          exact putN_size _ _ _ _ _ _ _ _
        have HBX := hide (put8_box (box8_of HC2.out (HOT _ (by omega))) (.bool false) (.bool false) (.int .i64 0) (.bool false) (.bool false) (.slice none 0 0) (.slice none 0 0) (.slice none 0 0))
        have HBL := hide (balloc (put8_below (putN_below B2.out (Nat.le_succ _) x0 x1 x2 x3 x4 x5) (Nat.le_refl _) (.bool false) (.bool false) (.int .i64 0) (.bool false) (.bool false) (.slice none 0 0) (.slice none 0 0) (.slice none 0 0)) (.cells #[x0, x1, x2, x3, x4, x5] 200))
        change bodyPost Tryz.prog Tryz.f139 (ExprGood W R) Exit.ret _ ((put8 (putN w2 (W.heap.size + 1) x0 x1 x2 x3 x4 x5) W.heap.size (.bool false) (.bool false) (.int .i64 0) (.bool false) (.bool false) (.slice none 0 0) (.slice none 0 0) (.slice none 0 0)).alloc (.cells #[x0, x1, x2, x3, x4, x5] 200))
        refine bodyPost_ret (v := .tuple #[.agg #[.bool false, .bool false, .int .i64 0, .bool false, .bool false, .slice none 0 0, .slice none 0 0, .slice none 0 0], .int .i64 4]) ?_ rfl (exprGood_err HX2.out HBL.out ⟨rfl, rfl, rfl, rfl, rfl, rfl⟩)
        exact res_expr Tryz.results139 _ _ W.heap.size rfl rfl (box8_below HBX.out (balloc (brefl _) _))
    | true =>
      have CI := hide (fun w => is_is s (by omega) j k HJ.out 36 36 rfl true h36 w)
      have CS0 := hide (fun w => skip_is s (by omega) j k HJ.out _ HJ.out.skip w)
      have HJ2 := hide (HJ.out.nextAt h36)
      have hsk : s.size - (Px.skip k).length ≤ 64 := by omega
      generalize s.size - (Px.skip k).length = m2 at CS0 HJ2 hsk
      have CS := hide (fun w => skip_is s (by omega) (m2 + 1) (Px.next k) HJ2.out _ HJ2.out.skip w)
      rw [h36] at HX
      simp only [if_true] at HX
      have hlen : (Px.skip (Px.next k)).length ≤ s.size := by have := (Px.skip_suf (Px.next k)).length_le; have := HJ2.out.len; omega
      clear h36
      refine (CI.out _).mono ?_
      rintro e w3 ⟨rfl, hw⟩
      have hw' := hw.symm
      clear hw
      subst hw'
      go_wp2_with fail
      refine (CS0.out _).mono ?_
      rintro e w3 ⟨rfl, hw⟩
      have hw' := hw.symm
      clear hw
      subst hw'
      by_cases hk : Px.skip (Px.next k) = []
      · have HX2 : Hid (R = .ok (true, true, c)) := by show _ = _; rw [HX.out, if_pos hk]
        have hm : s.size - (Px.skip (Px.next k)).length = s.size := by rw [hk]; rfl
        rw [hm] at CS
        clear hk hm HX hlen
        go_wp2_with fail
        refine (CS.out _).mono ?_
        rintro e w3 ⟨rfl, hw⟩
        have hw' := hw.symm
        clear hw
        subst hw'
        go_wp2_with fail
        have HOT : ∀ k, k ≠ W.heap.size + 1 → ((putN w2 (W.heap.size + 1) x0 x1 x2 x3 x4 x5).setCell ⟨W.heap.size + 1, 1, none⟩ (.bool true)).heap[k]? = w2.heap[k]? := fun k hk => by
          rw [heap_setCell_ne _ _ _ _ _ hk]
          exact putN_other w2 (W.heap.size + 1) x0 x1 x2 x3 x4 x5 k hk
        have HSZ : ((putN w2 (W.heap.size + 1) x0 x1 x2 x3 x4 x5).setCell ⟨W.heap.size + 1, 1, none⟩ (.bool true)).heap.size = w2.heap.size := by
          rw [size_setCell]; exact putN_size _ _ _ _ _ _ _ _
        have HBX := hide (put8_box (box8_of HC2.out (HOT _ (by omega))) (.bool true) (.bool true) x0 x1 x2 x3 x4 x5)
        have HBL := hide (balloc (put8_below (Below.setCell (putN_below B2.out (Nat.le_succ _) x0 x1 x2 x3 x4 x5) (p := ⟨W.heap.size + 1, 1, none⟩) (Nat.le_succ _) (.bool true)) (Nat.le_refl _) (.bool true) (.bool true) x0 x1 x2 x3 x4 x5) (.cells #[x0, x1, x2, x3, x4, x5] 200))
        have HAT : Hid (Tr.At ((put8 ((putN w2 (W.heap.size + 1) x0 x1 x2 x3 x4 x5).setCell ⟨W.heap.size + 1, 1, none⟩ (.bool true)) W.heap.size (.bool true) (.bool true) x0 x1 x2 x3 x4 x5).alloc (.cells #[x0, x1, x2, x3, x4, x5] 200)) (.mk 2 false false [] [] (Nd.trRows c)) [x0, x1, x2, x3, x4, x5]) := by
          have ho := HT.out
          rw [Nd.tr] at ho
          refine ho _ fun k hk hk2 => ?_
          simp only [size_alloc] at hk
          rw [heap_alloc_lt _ _ k (by rw [put8_size, HSZ]; exact hk2), put8_other _ _ _ _ _ _ _ _ _ _ k (by omega)]
          exact HOT k (by omega)
        change bodyPost Tryz.prog Tryz.f139 (ExprGood W R) Exit.ret _ ((put8 ((putN w2 (W.heap.size + 1) x0 x1 x2 x3 x4 x5).setCell ⟨W.heap.size + 1, 1, none⟩ (.bool true)) W.heap.size (.bool true) (.bool true) x0 x1 x2 x3 x4 x5).alloc (.cells #[x0, x1, x2, x3, x4, x5] 200))
        refine bodyPost_ret (v := .tuple #[.agg #[.bool true, .bool true, x0, x1, x2, x3, x4, x5], .int .i64 0]) ?_ rfl (exprGood_ok HX2.out HBL.out HAT.out)
        exact res_expr Tryz.results139 _ _ W.heap.size rfl rfl (box8_below HBX.out (balloc (brefl _) _))
      · have HX2 : Hid (R = .error 4) := by show _ = _; rw [HX.out, if_neg hk]
        have hm : s.size - (Px.skip (Px.next k)).length ≠ s.size := by have : 0 < (Px.skip (Px.next k)).length := List.length_pos_iff.2 hk
                                                                       omega
        generalize s.size - (Px.skip (Px.next k)).length = m at CS hm
        have hm' : ((m : Int) == (s.size : Int)) = false := by simp; omega
        clear hk HX hlen
        go_wp2_with fail
        refine (CS.out _).mono ?_
        rintro e w3 ⟨rfl, hw⟩
        have hw' := hw.symm
        clear hw
        subst hw'
        go_wp2_with fail
        have HOT : ∀ k, k ≠ W.heap.size + 1 → ((putN w2 (W.heap.size + 1) x0 x1 x2 x3 x4 x5).setCell ⟨W.heap.size + 1, 1, none⟩ (.bool true)).heap[k]? = w2.heap[k]? := fun k hk => by
          rw [heap_setCell_ne _ _ _ _ _ hk]
          exact putN_other w2 (W.heap.size + 1) x0 x1 x2 x3 x4 x5 k hk
        have HSZ : ((putN w2 (W.heap.size + 1) x0 x1 x2 x3 x4 x5).setCell ⟨W.heap.size + 1, 1, none⟩ (.bool true)).heap.size = w2.heap.size := by
          rw [size_setCell]; exact putN_size _ _ _ _ _ _ _ _
        have HBX := hide (put8_box (box8_of HC2.out (HOT _ (by omega))) (.bool false) (.bool false) (.int .i64 0) (.bool false) (.bool false) (.slice none 0 0) (.slice none 0 0) (.slice none 0 0))
        have HBL := hide (balloc (put8_below (Below.setCell (putN_below B2.out (Nat.le_succ _) x0 x1 x2 x3 x4 x5) (p := ⟨W.heap.size + 1, 1, none⟩) (Nat.le_succ _) (.bool true)) (Nat.le_refl _) (.bool false) (.bool false) (.int .i64 0) (.bool false) (.bool false) (.slice none 0 0) (.slice none 0 0) (.slice none 0 0)) (.cells #[x0, x1, x2, x3, x4, x5] 200))
        change bodyPost Tryz.prog Tryz.f139 (ExprGood W R) Exit.ret _ ((put8 ((putN w2 (W.heap.size + 1) x0 x1 x2 x3 x4 x5).setCell ⟨W.heap.size + 1, 1, none⟩ (.bool true)) W.heap.size (.bool false) (.bool false) (.int .i64 0) (.bool false) (.bool false) (.slice none 0 0) (.slice none 0 0) (.slice none 0 0)).alloc (.cells #[x0, x1, x2, x3, x4, x5] 200))
        refine bodyPost_ret (v := .tuple #[.agg #[.bool false, .bool false, .int .i64 0, .bool false, .bool false, .slice none 0 0, .slice none 0 0, .slice none 0 0], .int .i64 4]) ?_ rfl (exprGood_err HX2.out HBL.out ⟨rfl, rfl, rfl, rfl, rfl, rfl⟩)
        exact res_expr Tryz.results139 _ _ W.heap.size rfl rfl (box8_below HBX.out (balloc (brefl _) _))
theorem refParse_of (s : ByteArray) (hc : s.size ≤ 64 → ChoiceOk s 8 1) (W : World) : Calls Tryz.prog 139 #[.string s] W (ExprGood W (Px.parse s.data.toList)) := by
  by_cases hs : s.size ≤ 64
  · cases h : Px.isAt s.data.toList 94 with
    | false => exact refParse_rest s hs (hc hs) h W
    | true => exact refParse_caret s hs (hc hs) h W
  · exact refParse_long s (by omega) W
end Go.Proofs.YtpmmhmgojjlniaaGreatDoor.Ar
