/- Tries of texts: grow, Put. -/
import Derived.Test.YtechocnednepiaaSa
import Derived.Test.YtechocnednepiaaP6
namespace Go.Proofs.Ytechocnednepiaa
open Go.RowKit

set_option maxHeartbeats 4000000 in
set_option maxRecDepth 100000 in
theorem sgrow_is {w : World} {T : Nat} {t : Nt} (hT : Tri 96 100 (.string ⟨#[]⟩) w T t) {p : Pf} (hp : Gd p) :
    Calls Try.prog 58 #[.pointer (some ⟨T, 0, none⟩), pv p] w (Grown 96 100 (.string ⟨#[]⟩) w T t p) := by
  have HT := hide hT
  have HP := hide hp
  obtain ⟨c0, c1, cf⟩ := top_cells hT.top
  have f0 := cf 0
  have hTl := lt_of_block hT.top
  clear hT hp cf
  obtain ⟨p0, p1⟩ := p
  unfold pv
  go_enter Try.func58, Try.ntmps58
  cases t with
  | nil =>
    simp only [ptr_none] at c0
    go_wp2_with fail
    have HG := hide (grow_start0 (p := (p0, p1)) HT.out HP.out)
    simp only [size_alloc, size_setCell] at HG
    generalize (((w.setCell ⟨T, 0, none⟩ (.pointer (some ⟨w.heap.size + 1, 0, none⟩))).alloc (.cells #[.int .u32 p0, .int .i64 p1] 30)).alloc (.cells #[.pointer none, .pointer none, .string ⟨#[]⟩, .bool false] 100)).alloc (.cells #[.int .u32 0, .int .i64 0] 30) = W1 at *
    clear c0 c1 f0
    generalize w.heap.size = P at HG ⊢
    go_loopw [5, 6, 7] (fun v5 v6 v7 wr => ∃ (t0 s : Nt) (c : Pf) (A : Nat) (cx : List Nat) (pre post : List (Pf × Value)) (h : Int), v5 = s.ptr ∧ v6 = .int .i64 h ∧ v7 = .pointer (some ⟨A, 0, none⟩) ∧ Hid (Gr 96 100 (.string ⟨#[]⟩) w T .nil t0 P A (p0, p1) wr s c c cx pre post (kidsOk (.string ⟨#[]⟩) (left c) s))) (fun _ _ v7 wr => bitsLeft wr (blockOf v7))
    case atStart => exact ⟨_, _, _, _, _, _, _, 0, rfl, rfl, rfl, HG⟩
    case round =>
      obtain ⟨t0, s, c, A, cx, pre, post, h, rfl, rfl, rfl, HD⟩ := hrel
      clear HG
      have HM := hide (show bitsLeft wr (blockOf (.pointer (some ⟨A, 0, none⟩))) = _ from HD.out.now.left)
      obtain ⟨a0, a1⟩ := c
      obtain ⟨e0, e1, ef0, ef1⟩ := HD.out.now.cells
      obtain ⟨d0, d1, _, _⟩ := HD.out.two.cells
      have hgd := guardP
      by_cases hcp : (a0, a1) = (p0, p1)
      · have HC := hide hcp
        simp only [Prod.mk.injEq] at hcp
        obtain ⟨rfl, rfl⟩ := hcp
        have heq := neq_eq a0 a1
        go_wp2_with fail
        go_ret
        exact ⟨_, _, _, _, _, _, _, rfl, HD.out⟩
      · have HC := hide hcp
        have heq := neq_ne hcp
        clear hcp
        go_wp2_with fail
        refine (toward_is HD.out.good HP.out HD.out.isIn HC.out wr).mono ?_
        rintro e w3 ⟨rfl, hb3⟩
        have HS := hide (in_side HD.out.good HP.out HD.out.isIn HC.out)
        have HD2 := hide (HD.out.turn hb3 (half (a0, a1) (side (a0, a1) (p0, p1))))
        obtain ⟨e0, e1, ef0, ef1⟩ := (HD.out.now.below hb3).cells
        have HL := hide (HD.out.isIn.lt HD.out.good HP.out HC.out)
        have HL2 := hide HP.out.2.2.2.1
        have hA3 : A < w3.heap.size := (HD.out.now.below hb3).lt
        generalize side (a0, a1) (p0, p1) = sd at *
        have HG2 := hide (gd_half HD.out.good (by have h1 := HL.out; have h2 := HL2.out; simp only at h1 h2 ⊢; omega) sd)
        have HL0 : Hid (left (a0, a1) ≠ 0) := by show left (a0, a1) ≠ 0; have h1 := HL.out; have h2 := HL2.out; unfold left; simp only at h1 h2 ⊢; omega
        clear d0 d1
        cases s with
        | nil => exact absurd HD.out.kids id
        | nd b lo hi v is =>
          obtain ⟨k1, k2, k3, k4⟩ := HD.out.kids
          have K1 := hide k1
          have K3 := hide k3
          have K4 := hide k4
          clear k1 k2 k3 k4
          have hbA : b ≠ A := (HD.out.old b (.inl (by simp [Nt.own]))).2.2.2.1
          obtain ⟨n0, n1, _, _, nf⟩ := node_cells (HD.out.lies.below hb3).1
          have nf0 := nf 0
          have nf1 := nf 1
          have hb3' : b < w3.heap.size := lt_of_block (HD.out.lies.below hb3).1
          clear hb3 nf
          simp only [ptr_nd]
          unfold pv
          cases sd
          · simp only [show sideI false = 0 from rfl]
            cases lo with
            | nil =>
              simp only [ptr_none] at n0
              go_wp2_with fail
              have HN := HD2.out.makeLow
              have HX := HN.low HL0.out HG2.out HS.out K1.out K4.out (kidsOk_new _ _ _)
              simp only [size_setCell, size_alloc] at HX
              refine ⟨⟨_, _, _, _, _, _, _, 0, rfl, rfl, rfl, HX⟩, ?_⟩
              have e1 := HX.now.left
              rw [HM.out]
              refine Nat.lt_of_le_of_lt (Nat.le_of_eq e1) ?_
              have h1 := HL.out
              have h2 := HL2.out
              simp only [half] at h1 h2 ⊢
              omega
            | nd b2 lo2 hi2 v2 is2 =>
              simp only [ptr_nd] at n0
              go_wp2_with fail
              have HN := HD2.out
              have HX := HN.low HL0.out HG2.out HS.out K1.out K4.out (kidsOk_wf K3.out (by simp))
              simp only [size_setCell] at HX
              refine ⟨⟨_, _, _, _, _, _, _, 0, rfl, rfl, rfl, HX⟩, ?_⟩
              have e1 := HX.now.left
              rw [HM.out]
              refine Nat.lt_of_le_of_lt (Nat.le_of_eq e1) ?_
              have h1 := HL.out
              have h2 := HL2.out
              simp only [half] at h1 h2 ⊢
              omega
          · simp only [show sideI true = 1 from rfl]
            cases hi with
            | nil =>
              simp only [ptr_none] at n1
              go_wp2_with fail
              have HN := HD2.out.makeHigh
              have HX := HN.high HL0.out HG2.out HS.out K1.out K3.out (kidsOk_new _ _ _)
              simp only [size_setCell, size_alloc] at HX
              refine ⟨⟨_, _, _, _, _, _, _, 1, rfl, rfl, rfl, HX⟩, ?_⟩
              have e1 := HX.now.left
              rw [HM.out]
              refine Nat.lt_of_le_of_lt (Nat.le_of_eq e1) ?_
              have h1 := HL.out
              have h2 := HL2.out
              simp only [half] at h1 h2 ⊢
              omega
            | nd b2 lo2 hi2 v2 is2 =>
              simp only [ptr_nd] at n1
              go_wp2_with fail
              have HN := HD2.out
              have HX := HN.high HL0.out HG2.out HS.out K1.out K3.out (kidsOk_wf K4.out (by simp))
              simp only [size_setCell] at HX
              refine ⟨⟨_, _, _, _, _, _, _, 1, rfl, rfl, rfl, HX⟩, ?_⟩
              have e1 := HX.now.left
              rw [HM.out]
              refine Nat.lt_of_le_of_lt (Nat.le_of_eq e1) ?_
              have h1 := HL.out
              have h2 := HL2.out
              simp only [half] at h1 h2 ⊢
              omega
  | nd b lo hi v is =>
    simp only [ptr_nd] at c0
    go_wp2_with fail
    have HG := hide (Gr.start HT.out HP.out (balloc (brefl w) (.cells #[.int .u32 p0, .int .i64 p1] 30)) (two_new w (p0, p1)) (by simp))
    rw [size_alloc] at HG
    generalize (w.alloc (.cells #[.int .u32 p0, .int .i64 p1] 30)).alloc (.cells #[.int .u32 0, .int .i64 0] 30) = W1 at *
    clear c0 c1 f0
    generalize w.heap.size = P at HG ⊢
    go_loopw [5, 6, 7] (fun v5 v6 v7 wr => ∃ (t0 s : Nt) (c : Pf) (A : Nat) (cx : List Nat) (pre post : List (Pf × Value)) (h : Int), v5 = s.ptr ∧ v6 = .int .i64 h ∧ v7 = .pointer (some ⟨A, 0, none⟩) ∧ Hid (Gr 96 100 (.string ⟨#[]⟩) w T (.nd b lo hi v is) t0 P A (p0, p1) wr s c c cx pre post (kidsOk (.string ⟨#[]⟩) (left c) s))) (fun _ _ v7 wr => bitsLeft wr (blockOf v7))
    case atStart => exact ⟨_, _, _, _, _, _, _, 0, rfl, rfl, rfl, HG⟩
    case round =>
      obtain ⟨t0, s, c, A, cx, pre, post, h, rfl, rfl, rfl, HD⟩ := hrel
      clear HG
      have HM := hide (show bitsLeft wr (blockOf (.pointer (some ⟨A, 0, none⟩))) = _ from HD.out.now.left)
      obtain ⟨a0, a1⟩ := c
      obtain ⟨e0, e1, ef0, ef1⟩ := HD.out.now.cells
      obtain ⟨d0, d1, _, _⟩ := HD.out.two.cells
      have hgd := guardP
      by_cases hcp : (a0, a1) = (p0, p1)
      · have HC := hide hcp
        simp only [Prod.mk.injEq] at hcp
        obtain ⟨rfl, rfl⟩ := hcp
        have heq := neq_eq a0 a1
        go_wp2_with fail
        go_ret
        exact ⟨_, _, _, _, _, _, _, rfl, HD.out⟩
      · have HC := hide hcp
        have heq := neq_ne hcp
        clear hcp
        go_wp2_with fail
        refine (toward_is HD.out.good HP.out HD.out.isIn HC.out wr).mono ?_
        rintro e w3 ⟨rfl, hb3⟩
        have HS := hide (in_side HD.out.good HP.out HD.out.isIn HC.out)
        have HD2 := hide (HD.out.turn hb3 (half (a0, a1) (side (a0, a1) (p0, p1))))
        obtain ⟨e0, e1, ef0, ef1⟩ := (HD.out.now.below hb3).cells
        have HL := hide (HD.out.isIn.lt HD.out.good HP.out HC.out)
        have HL2 := hide HP.out.2.2.2.1
        have hA3 : A < w3.heap.size := (HD.out.now.below hb3).lt
        generalize side (a0, a1) (p0, p1) = sd at *
        have HG2 := hide (gd_half HD.out.good (by have h1 := HL.out; have h2 := HL2.out; simp only at h1 h2 ⊢; omega) sd)
        have HL0 : Hid (left (a0, a1) ≠ 0) := by show left (a0, a1) ≠ 0; have h1 := HL.out; have h2 := HL2.out; unfold left; simp only at h1 h2 ⊢; omega
        clear d0 d1
        cases s with
        | nil => exact absurd HD.out.kids id
        | nd b lo hi v is =>
          obtain ⟨k1, k2, k3, k4⟩ := HD.out.kids
          have K1 := hide k1
          have K3 := hide k3
          have K4 := hide k4
          clear k1 k2 k3 k4
          have hbA : b ≠ A := (HD.out.old b (.inl (by simp [Nt.own]))).2.2.2.1
          obtain ⟨n0, n1, _, _, nf⟩ := node_cells (HD.out.lies.below hb3).1
          have nf0 := nf 0
          have nf1 := nf 1
          have hb3' : b < w3.heap.size := lt_of_block (HD.out.lies.below hb3).1
          clear hb3 nf
          simp only [ptr_nd]
          unfold pv
          cases sd
          · simp only [show sideI false = 0 from rfl]
            cases lo with
            | nil =>
              simp only [ptr_none] at n0
              go_wp2_with fail
              have HN := HD2.out.makeLow
              have HX := HN.low HL0.out HG2.out HS.out K1.out K4.out (kidsOk_new _ _ _)
              simp only [size_setCell, size_alloc] at HX
              refine ⟨⟨_, _, _, _, _, _, _, 0, rfl, rfl, rfl, HX⟩, ?_⟩
              have e1 := HX.now.left
              rw [HM.out]
              refine Nat.lt_of_le_of_lt (Nat.le_of_eq e1) ?_
              have h1 := HL.out
              have h2 := HL2.out
              simp only [half] at h1 h2 ⊢
              omega
            | nd b2 lo2 hi2 v2 is2 =>
              simp only [ptr_nd] at n0
              go_wp2_with fail
              have HN := HD2.out
              have HX := HN.low HL0.out HG2.out HS.out K1.out K4.out (kidsOk_wf K3.out (by simp))
              simp only [size_setCell] at HX
              refine ⟨⟨_, _, _, _, _, _, _, 0, rfl, rfl, rfl, HX⟩, ?_⟩
              have e1 := HX.now.left
              rw [HM.out]
              refine Nat.lt_of_le_of_lt (Nat.le_of_eq e1) ?_
              have h1 := HL.out
              have h2 := HL2.out
              simp only [half] at h1 h2 ⊢
              omega
          · simp only [show sideI true = 1 from rfl]
            cases hi with
            | nil =>
              simp only [ptr_none] at n1
              go_wp2_with fail
              have HN := HD2.out.makeHigh
              have HX := HN.high HL0.out HG2.out HS.out K1.out K3.out (kidsOk_new _ _ _)
              simp only [size_setCell, size_alloc] at HX
              refine ⟨⟨_, _, _, _, _, _, _, 1, rfl, rfl, rfl, HX⟩, ?_⟩
              have e1 := HX.now.left
              rw [HM.out]
              refine Nat.lt_of_le_of_lt (Nat.le_of_eq e1) ?_
              have h1 := HL.out
              have h2 := HL2.out
              simp only [half] at h1 h2 ⊢
              omega
            | nd b2 lo2 hi2 v2 is2 =>
              simp only [ptr_nd] at n1
              go_wp2_with fail
              have HN := HD2.out
              have HX := HN.high HL0.out HG2.out HS.out K1.out K3.out (kidsOk_wf K4.out (by simp))
              simp only [size_setCell] at HX
              refine ⟨⟨_, _, _, _, _, _, _, 1, rfl, rfl, rfl, HX⟩, ?_⟩
              have e1 := HX.now.left
              rw [HM.out]
              refine Nat.lt_of_le_of_lt (Nat.le_of_eq e1) ?_
              have h1 := HL.out
              have h2 := HL2.out
              simp only [half] at h1 h2 ⊢
              omega
theorem sput_nil (p : Pf) (v : ByteArray) (w : World) : Calls Try.prog 36 #[.pointer none, pv p, .string v] w fun e w' => e = .returned (.tuple #[.bool false, .int .i64 1]) ∧ Below w.heap.size w w' := by
  obtain ⟨p0, p1⟩ := p
  unfold pv
  go_enter Try.func36, Try.ntmps36
  go_wp2_with fail
  go_ret2
  exact ⟨rfl, balloc (brefl w) _⟩
theorem sput_bad (T : Nat) (p : Pf) (v : ByteArray) (w : World) (h0 : 0 ≤ p.1) (h1 : p.1 ≤ 4294967295) (hm : Ad.may p.1 p.2 = false) : Calls Try.prog 36 #[.pointer (some ⟨T, 0, none⟩), pv p, .string v] w fun e w' => e = .returned (.tuple #[.bool false, .int .i64 1]) ∧ Below w.heap.size w w' := by
  obtain ⟨p0, p1⟩ := p
  unfold pv
  go_enter Try.func36, Try.ntmps36
  go_wp2_with fail
  refine (may_is p0 p1 false hm _ h0 h1).mono ?_
  rintro e w1 ⟨rfl, hb1⟩
  go_wp2_with fail
  go_ret2
  exact ⟨rfl, bthen (balloc (brefl w) _) hb1⟩
set_option maxHeartbeats 4000000 in
theorem sput_is {w : World} {T : Nat} {t : Nt} (hT : Tri 96 100 (.string ⟨#[]⟩) w T t) {p : Pf} (hp : Gd p) (v : ByteArray) (hlen : (t.list (0, 0)).length ≤ 1000000) :
    Calls Try.prog 36 #[.pointer (some ⟨T, 0, none⟩), pv p, .string v] w fun e w' => ∃ (is : Bool) (t' : Nt) (pre o post : List (Pf × Value)), e = .returned (.tuple #[.bool is, .int .i64 0]) ∧ PutTo 96 100 (.string ⟨#[]⟩) w T t p (.string v) is w' t' pre o post := by
  have HT := hide hT
  have HP := hide hp
  clear hT hp
  obtain ⟨p0, p1⟩ := p
  unfold pv
  go_enter Try.func36, Try.ntmps36
  go_wp2_with fail
  refine (may_is p0 p1 true HP.out.may _ HP.out.1 HP.out.2.1).mono ?_
  rintro e w1 ⟨rfl, hb1⟩
  have B1 := hide (bthen (balloc (brefl w) _) hb1)
  have T1 := hide ((two_new w (p0, p1)).below hb1)
  obtain ⟨d0, d1, _, _⟩ := T1.out.cells
  have CG := hide (sgrow_is (HT.out.below B1.out) HP.out)
  clear hb1
  go_wp2_with fail
  refine CG.out.mono ?_
  rintro e w2 ⟨t0, s, P, A, cx, pre, post, rfl, hG⟩
  cases s with
  | nil => exact absurd hG.kids id
  | nd b lo hi v0 is =>
    have HG := hide hG
    obtain ⟨n0, n1, n2, n3, nf⟩ := node_cells hG.lies.1
    obtain ⟨c0, c1, cf⟩ := top_cells hG.top
    have nf2 := nf 2
    have nf3 := nf 3
    have cf1 := cf 1
    have hbT : b ≠ T := (hG.old b (.inl (by simp [Nt.own]))).2.2.2.2
    have hTb : T ≠ b := fun e => hbT e.symm
    obtain ⟨len, hl⟩ : ∃ len, len = (t.list (0, 0)).length := ⟨_, rfl⟩
    rw [← hl] at c1 hlen
    have HL := hide hl
    have HNod := hide (List.nodup_cons.1 HT.out.apart).1
    clear hl
    clear hG nf cf c0 n0 n1 d0 d1 T1
    simp only [ptr_nd]
    cases is
    · go_wp2_with fail
      go_ret2
      obtain ⟨t', a1, a2, a3, h⟩ := HG.out.put HNod.out (.string v) (((w2.setCell ⟨T, 1, none⟩ (.int .i64 ((len : Int) + 1))).setCell ⟨b, 2, none⟩ (.string v)).setCell ⟨b, 3, none⟩ (.bool true)) ((len : Int) + 1)
        (fun k h1 h2 h3 => by rw [heap_setCell_other _ _ _ _ h1, heap_setCell_other _ _ _ _ h1, heap_setCell_other _ _ _ _ h2])
        (node_set3 (node_set2 ((heap_setCell_other _ _ _ _ hbT).trans HG.out.lies.1) _) _)
        (by rw [heap_setCell_other _ _ _ _ hTb, heap_setCell_other _ _ _ _ hTb]; exact heap_setCell_same w2 T 1 _ 96 _ HG.out.top)
        (by rw [← HL.out]; simp) ((((Keep.refl (fun k => k = b ∨ k = T) w2).setCell (p := ⟨T, 1, none⟩) (.inl (.inr rfl)) _).setCell (p := ⟨b, 2, none⟩) (.inl (.inl rfl)) _).setCell (p := ⟨b, 3, none⟩) (.inl (.inl rfl)) _)
      exact ⟨false, t', a1, a2, a3, rfl, h.back B1.out⟩
    · go_wp2_with fail
      go_ret2
      obtain ⟨t', a1, a2, a3, h⟩ := HG.out.put HNod.out (.string v) ((w2.setCell ⟨b, 2, none⟩ (.string v)).setCell ⟨b, 3, none⟩ (.bool true)) (len : Int)
        (fun k h1 h2 h3 => by rw [heap_setCell_other _ _ _ _ h1, heap_setCell_other _ _ _ _ h1])
        (node_set3 (node_set2 HG.out.lies.1 _) _)
        (by rw [heap_setCell_other _ _ _ _ hTb, heap_setCell_other _ _ _ _ hTb, HL.out]; exact HG.out.top)
        (by rw [← HL.out]; simp) (((Keep.refl (fun k => k = b ∨ k = T) w2).setCell (p := ⟨b, 2, none⟩) (.inl (.inl rfl)) _).setCell (p := ⟨b, 3, none⟩) (.inl (.inl rfl)) _)
      exact ⟨true, t', a1, a2, a3, rfl, h.back B1.out⟩
end Go.Proofs.Ytechocnednepiaa
