import Derived.Test.YtechocnednepiaaP4
/- The contract of a trie's grow. -/
namespace Go.Proofs.Ytechocnednepiaa
open Go.RowKit

/-- The block that a pointer tells. -/
def blockOf : Value → Nat
  | .pointer (some a) => a.block
  | _ => 0
theorem Gr.start {yT y : Nat} {z : Value} {w w1 : World} {T : Nat} {t : Nt} {p : Pf} (hT : Tri yT y z w T t) (hp : Gd p) (hb : Below w.heap.size w w1) (h2 : Two w1 w.heap.size p) (hne : t ≠ .nil) :
    Gr yT y z w T t t w.heap.size w1.heap.size p (w1.alloc (.cells #[.int .u32 0, .int .i64 0] 30)) t (0, 0) (0, 0) [] [] [] (kidsOk z (left (0, 0)) t) := by
  have hb2 := balloc hb (.cells #[.int .u32 0, .int .i64 0] 30)
  have hz := h2.lt
  have hnd := hT.apart
  rw [List.nodup_cons] at hnd
  refine ⟨(wand_start y z w t).step rfl (by simp), hT.lies.below hb2, hnd.2, by simp, fun k hk => ?_, kidsOk_wf hT.wf hne, by simp, Keep.of hb2, (hb2.block T (hT.lt T (by simp))).trans hT.top, h2.below (balloc (brefl _) _), two_new w1 (0, 0), Nat.le_refl _, by omega, by omega, hT.lt T (by simp), gd_root, in_root hp⟩
  rcases hk with hk | hk
  · have := hT.lt k (by simp [hk])
    refine ⟨.inl hk, by rw [size_alloc]; omega, by omega, by omega, fun e => hnd.1 (e ▸ hk)⟩
  · simp at hk
theorem Gr.start0 {yT y : Nat} {z : Value} {w w1 : World} {T : Nat} {p : Pf} {R : Nat} (hT : Tri yT y z w T .nil) (hp : Gd p) (hk : Keep (fun k => k ∈ T :: Nt.nil.own) w w1) (h2 : Two w1 w.heap.size p) (hR : w.heap.size < R) (hN : w1.heap[R]? = some (.cells #[.pointer none, .pointer none, z, .bool false] y (0, 0))) (ht : w1.heap[T]? = some (.cells #[.pointer (some ⟨R, 0, none⟩), .int .i64 0] yT (0, 0))) :
    Gr yT y z w T .nil (.nd R .nil .nil z false) w.heap.size w1.heap.size p (w1.alloc (.cells #[.int .u32 0, .int .i64 0] 30)) (.nd R .nil .nil z false) (0, 0) (0, 0) [] [] [] (kidsOk z (left (0, 0)) (.nd R .nil .nil z false)) := by
  have hb2 := balloc (brefl w1) (.cells #[.int .u32 0, .int .i64 0] 30)
  have hz := h2.lt
  have hRl := lt_of_block hN
  have hTl := hT.lt T (by simp)
  refine ⟨(wand_start y z w _).step rfl (by simp), ⟨(hb2.block R hRl).trans hN, trivial, trivial⟩, by simp [Nt.own], by simp, fun k hk => ?_, kidsOk_new z _ R, by simp [Nt.list, one], hk.alloc _, (hb2.block T (lt_of_block ht)).trans ht, h2.below hb2, two_new w1 (0, 0), Nat.le_refl _, by omega, by omega, hTl, gd_root, in_root hp⟩
  simp [Nt.own] at hk
  subst hk
  exact ⟨.inr (by omega), by rw [size_alloc]; omega, by omega, by omega, by omega⟩

theorem grow_start0 {w : World} {T : Nat} {p : Pf} {z : Value} {yT y : Nat} (hT : Tri yT y z w T .nil) (hp : Gd p) :
    Gr yT y z w T .nil (.nd (w.heap.size + 1) .nil .nil z false) w.heap.size (((w.setCell ⟨T, 0, none⟩ (.pointer (some ⟨w.heap.size + 1, 0, none⟩))).alloc (.cells #[.int .u32 p.1, .int .i64 p.2] 30)).alloc (.cells #[.pointer none, .pointer none, z, .bool false] y)).heap.size p
      ((((w.setCell ⟨T, 0, none⟩ (.pointer (some ⟨w.heap.size + 1, 0, none⟩))).alloc (.cells #[.int .u32 p.1, .int .i64 p.2] 30)).alloc (.cells #[.pointer none, .pointer none, z, .bool false] y)).alloc (.cells #[.int .u32 0, .int .i64 0] 30)) (.nd (w.heap.size + 1) .nil .nil z false) (0, 0) (0, 0) [] [] [] (kidsOk z (left (0, 0)) (.nd (w.heap.size + 1) .nil .nil z false)) := by
  have hTl := hT.lt T (by simp)
  have hs : (w.setCell ⟨T, 0, none⟩ (.pointer (some ⟨w.heap.size + 1, 0, none⟩))).heap.size = w.heap.size := size_setCell _ _ _
  refine Gr.start0 hT hp ?_ ?_ (Nat.lt_succ_self _) ?_ ?_
  · exact (((Keep.refl _ w).setCell (p := ⟨T, 0, none⟩) (.inl (by simp)) _).alloc _).alloc _
  · have := two_new (w.setCell ⟨T, 0, none⟩ (.pointer (some ⟨w.heap.size + 1, 0, none⟩))) p
    rw [hs] at this
    exact this.below (balloc (brefl _) _)
  · have := heap_alloc_new ((w.setCell ⟨T, 0, none⟩ (.pointer (some ⟨w.heap.size + 1, 0, none⟩))).alloc (.cells #[.int .u32 p.1, .int .i64 p.2] 30)) (.cells #[.pointer none, .pointer none, z, .bool false] y)
    rw [size_alloc, hs] at this
    exact this
  · rw [heap_alloc_lt _ _ _ (by rw [size_alloc, hs]; omega), heap_alloc_lt _ _ _ (by rw [hs]; omega)]
    exact heap_setCell_same w T 0 _ yT (.pointer (some ⟨w.heap.size + 1, 0, none⟩)) hT.top

/-- What grow hands back. -/
def Grown (yT y : Nat) (z : Value) (w : World) (T : Nat) (t : Nt) (p : Pf) (e : Ending) (w' : World) : Prop :=
  ∃ (t0 s : Nt) (P A : Nat) (cx : List Nat) (pre post : List (Pf × Value)), e = .returned s.ptr ∧ Gr yT y z w T t t0 P A p w' s p p cx pre post (kidsOk z (left p) s)
set_option maxHeartbeats 4000000 in
set_option maxRecDepth 100000 in
theorem grow_is {w : World} {T : Nat} {t : Nt} (hT : Tri 75 89 (.int .i64 0) w T t) {p : Pf} (hp : Gd p) :
    Calls Try.prog 57 #[.pointer (some ⟨T, 0, none⟩), pv p] w (Grown 75 89 (.int .i64 0) w T t p) := by
  have HT := hide hT
  have HP := hide hp
  obtain ⟨c0, c1, cf⟩ := top_cells hT.top
  have f0 := cf 0
  have hTl := lt_of_block hT.top
  clear hT hp cf
  obtain ⟨p0, p1⟩ := p
  unfold pv
  go_enter Try.func57, Try.ntmps57
  cases t with
  | nil =>
    simp only [ptr_none] at c0
    go_wp2_with fail
    have HG := hide (grow_start0 (p := (p0, p1)) HT.out HP.out)
    simp only [size_alloc, size_setCell] at HG
    generalize (((w.setCell ⟨T, 0, none⟩ (.pointer (some ⟨w.heap.size + 1, 0, none⟩))).alloc (.cells #[.int .u32 p0, .int .i64 p1] 30)).alloc (.cells #[.pointer none, .pointer none, .int .i64 0, .bool false] 89)).alloc (.cells #[.int .u32 0, .int .i64 0] 30) = W1 at *
    clear c0 c1 f0
    generalize w.heap.size = P at HG ⊢
    go_loopw [5, 6, 7] (fun v5 v6 v7 wr => ∃ (t0 s : Nt) (c : Pf) (A : Nat) (cx : List Nat) (pre post : List (Pf × Value)) (h : Int), v5 = s.ptr ∧ v6 = .int .i64 h ∧ v7 = .pointer (some ⟨A, 0, none⟩) ∧ Hid (Gr 75 89 (.int .i64 0) w T .nil t0 P A (p0, p1) wr s c c cx pre post (kidsOk (.int .i64 0) (left c) s))) (fun _ _ v7 wr => bitsLeft wr (blockOf v7))
    case atStart => exact ⟨_, _, _, _, _, _, _, 0, rfl, rfl, rfl, HG⟩
    case round =>
      obtain ⟨t0, s, c, A, cx, pre, post, h, rfl, rfl, rfl, HD⟩ := hrel
      clear HG
      have HM := hide (show bitsLeft wr (blockOf (.pointer (some ⟨A, 0, none⟩))) = _ from HD.out.now.left)
      obtain ⟨a0, a1⟩ := c
      obtain ⟨e0, e1, ef0, ef1⟩ := HD.out.now.cells
      obtain ⟨d0, d1, _, _⟩ := HD.out.two.cells
      have hgd := guardP
      by_cases hcp : (a0, a1) = (p0, p1)
      · have HC := hide hcp
        simp only [Prod.mk.injEq] at hcp
        obtain ⟨rfl, rfl⟩ := hcp
        have heq := neq_eq a0 a1
        go_wp2_with fail
        go_ret
        exact ⟨_, _, _, _, _, _, _, rfl, HD.out⟩
      · have HC := hide hcp
        have heq := neq_ne hcp
        clear hcp
        go_wp2_with fail
        refine (toward_is HD.out.good HP.out HD.out.isIn HC.out wr).mono ?_
        rintro e w3 ⟨rfl, hb3⟩
        have HS := hide (in_side HD.out.good HP.out HD.out.isIn HC.out)
        have HD2 := hide (HD.out.turn hb3 (half (a0, a1) (side (a0, a1) (p0, p1))))
        obtain ⟨e0, e1, ef0, ef1⟩ := (HD.out.now.below hb3).cells
        have HL := hide (HD.out.isIn.lt HD.out.good HP.out HC.out)
        have HL2 := hide HP.out.2.2.2.1
        have hA3 : A < w3.heap.size := (HD.out.now.below hb3).lt
        generalize side (a0, a1) (p0, p1) = sd at *
        have HG2 := hide (gd_half HD.out.good (by have h1 := HL.out; have h2 := HL2.out; simp only at h1 h2 ⊢; omega) sd)
        have HL0 : Hid (left (a0, a1) ≠ 0) := by show left (a0, a1) ≠ 0; have h1 := HL.out; have h2 := HL2.out; unfold left; simp only at h1 h2 ⊢; omega
        clear d0 d1
        cases s with
        | nil => exact absurd HD.out.kids id
        | nd b lo hi v is =>
          obtain ⟨k1, k2, k3, k4⟩ := HD.out.kids
          have K1 := hide k1
          have K3 := hide k3
          have K4 := hide k4
          clear k1 k2 k3 k4
          have hbA : b ≠ A := (HD.out.old b (.inl (by simp [Nt.own]))).2.2.2.1
          obtain ⟨n0, n1, _, _, nf⟩ := node_cells (HD.out.lies.below hb3).1
          have nf0 := nf 0
          have nf1 := nf 1
          have hb3' : b < w3.heap.size := lt_of_block (HD.out.lies.below hb3).1
          clear hb3 nf
          simp only [ptr_nd]
          unfold pv
          cases sd
          · simp only [show sideI false = 0 from rfl]
            cases lo with
            | nil =>
              simp only [ptr_none] at n0
              go_wp2_with fail
              have HN := HD2.out.makeLow
              have HX := HN.low HL0.out HG2.out HS.out K1.out K4.out (kidsOk_new _ _ _)
              simp only [size_setCell, size_alloc] at HX
              refine ⟨⟨_, _, _, _, _, _, _, 0, rfl, rfl, rfl, HX⟩, ?_⟩
              have e1 := HX.now.left
              rw [HM.out]
              refine Nat.lt_of_le_of_lt (Nat.le_of_eq e1) ?_
              have h1 := HL.out
              have h2 := HL2.out
              simp only [half] at h1 h2 ⊢
              omega
            | nd b2 lo2 hi2 v2 is2 =>
              simp only [ptr_nd] at n0
              go_wp2_with fail
              have HN := HD2.out
              have HX := HN.low HL0.out HG2.out HS.out K1.out K4.out (kidsOk_wf K3.out (by simp))
              simp only [size_setCell] at HX
              refine ⟨⟨_, _, _, _, _, _, _, 0, rfl, rfl, rfl, HX⟩, ?_⟩
              have e1 := HX.now.left
              rw [HM.out]
              refine Nat.lt_of_le_of_lt (Nat.le_of_eq e1) ?_
              have h1 := HL.out
              have h2 := HL2.out
              simp only [half] at h1 h2 ⊢
              omega
          · simp only [show sideI true = 1 from rfl]
            cases hi with
            | nil =>
              simp only [ptr_none] at n1
              go_wp2_with fail
              have HN := HD2.out.makeHigh
              have HX := HN.high HL0.out HG2.out HS.out K1.out K3.out (kidsOk_new _ _ _)
              simp only [size_setCell, size_alloc] at HX
              refine ⟨⟨_, _, _, _, _, _, _, 1, rfl, rfl, rfl, HX⟩, ?_⟩
              have e1 := HX.now.left
              rw [HM.out]
              refine Nat.lt_of_le_of_lt (Nat.le_of_eq e1) ?_
              have h1 := HL.out
              have h2 := HL2.out
              simp only [half] at h1 h2 ⊢
              omega
            | nd b2 lo2 hi2 v2 is2 =>
              simp only [ptr_nd] at n1
              go_wp2_with fail
              have HN := HD2.out
              have HX := HN.high HL0.out HG2.out HS.out K1.out K3.out (kidsOk_wf K4.out (by simp))
              simp only [size_setCell] at HX
              refine ⟨⟨_, _, _, _, _, _, _, 1, rfl, rfl, rfl, HX⟩, ?_⟩
              have e1 := HX.now.left
              rw [HM.out]
              refine Nat.lt_of_le_of_lt (Nat.le_of_eq e1) ?_
              have h1 := HL.out
              have h2 := HL2.out
              simp only [half] at h1 h2 ⊢
              omega
  | nd b lo hi v is =>
    simp only [ptr_nd] at c0
    go_wp2_with fail
    have HG := hide (Gr.start HT.out HP.out (balloc (brefl w) (.cells #[.int .u32 p0, .int .i64 p1] 30)) (two_new w (p0, p1)) (by simp))
    rw [size_alloc] at HG
    generalize (w.alloc (.cells #[.int .u32 p0, .int .i64 p1] 30)).alloc (.cells #[.int .u32 0, .int .i64 0] 30) = W1 at *
    clear c0 c1 f0
    generalize w.heap.size = P at HG ⊢
    go_loopw [5, 6, 7] (fun v5 v6 v7 wr => ∃ (t0 s : Nt) (c : Pf) (A : Nat) (cx : List Nat) (pre post : List (Pf × Value)) (h : Int), v5 = s.ptr ∧ v6 = .int .i64 h ∧ v7 = .pointer (some ⟨A, 0, none⟩) ∧ Hid (Gr 75 89 (.int .i64 0) w T (.nd b lo hi v is) t0 P A (p0, p1) wr s c c cx pre post (kidsOk (.int .i64 0) (left c) s))) (fun _ _ v7 wr => bitsLeft wr (blockOf v7))
    case atStart => exact ⟨_, _, _, _, _, _, _, 0, rfl, rfl, rfl, HG⟩
    case round =>
      obtain ⟨t0, s, c, A, cx, pre, post, h, rfl, rfl, rfl, HD⟩ := hrel
      clear HG
      have HM := hide (show bitsLeft wr (blockOf (.pointer (some ⟨A, 0, none⟩))) = _ from HD.out.now.left)
      obtain ⟨a0, a1⟩ := c
      obtain ⟨e0, e1, ef0, ef1⟩ := HD.out.now.cells
      obtain ⟨d0, d1, _, _⟩ := HD.out.two.cells
      have hgd := guardP
      by_cases hcp : (a0, a1) = (p0, p1)
      · have HC := hide hcp
        simp only [Prod.mk.injEq] at hcp
        obtain ⟨rfl, rfl⟩ := hcp
        have heq := neq_eq a0 a1
        go_wp2_with fail
        go_ret
        exact ⟨_, _, _, _, _, _, _, rfl, HD.out⟩
      · have HC := hide hcp
        have heq := neq_ne hcp
        clear hcp
        go_wp2_with fail
        refine (toward_is HD.out.good HP.out HD.out.isIn HC.out wr).mono ?_
        rintro e w3 ⟨rfl, hb3⟩
        have HS := hide (in_side HD.out.good HP.out HD.out.isIn HC.out)
        have HD2 := hide (HD.out.turn hb3 (half (a0, a1) (side (a0, a1) (p0, p1))))
        obtain ⟨e0, e1, ef0, ef1⟩ := (HD.out.now.below hb3).cells
        have HL := hide (HD.out.isIn.lt HD.out.good HP.out HC.out)
        have HL2 := hide HP.out.2.2.2.1
        have hA3 : A < w3.heap.size := (HD.out.now.below hb3).lt
        generalize side (a0, a1) (p0, p1) = sd at *
        have HG2 := hide (gd_half HD.out.good (by have h1 := HL.out; have h2 := HL2.out; simp only at h1 h2 ⊢; omega) sd)
        have HL0 : Hid (left (a0, a1) ≠ 0) := by show left (a0, a1) ≠ 0; have h1 := HL.out; have h2 := HL2.out; unfold left; simp only at h1 h2 ⊢; omega
        clear d0 d1
        cases s with
        | nil => exact absurd HD.out.kids id
        | nd b lo hi v is =>
          obtain ⟨k1, k2, k3, k4⟩ := HD.out.kids
          have K1 := hide k1
          have K3 := hide k3
          have K4 := hide k4
          clear k1 k2 k3 k4
          have hbA : b ≠ A := (HD.out.old b (.inl (by simp [Nt.own]))).2.2.2.1
          obtain ⟨n0, n1, _, _, nf⟩ := node_cells (HD.out.lies.below hb3).1
          have nf0 := nf 0
          have nf1 := nf 1
          have hb3' : b < w3.heap.size := lt_of_block (HD.out.lies.below hb3).1
          clear hb3 nf
          simp only [ptr_nd]
          unfold pv
          cases sd
          · simp only [show sideI false = 0 from rfl]
            cases lo with
            | nil =>
              simp only [ptr_none] at n0
              go_wp2_with fail
              have HN := HD2.out.makeLow
              have HX := HN.low HL0.out HG2.out HS.out K1.out K4.out (kidsOk_new _ _ _)
              simp only [size_setCell, size_alloc] at HX
              refine ⟨⟨_, _, _, _, _, _, _, 0, rfl, rfl, rfl, HX⟩, ?_⟩
              have e1 := HX.now.left
              rw [HM.out]
              refine Nat.lt_of_le_of_lt (Nat.le_of_eq e1) ?_
              have h1 := HL.out
              have h2 := HL2.out
              simp only [half] at h1 h2 ⊢
              omega
            | nd b2 lo2 hi2 v2 is2 =>
              simp only [ptr_nd] at n0
              go_wp2_with fail
              have HN := HD2.out
              have HX := HN.low HL0.out HG2.out HS.out K1.out K4.out (kidsOk_wf K3.out (by simp))
              simp only [size_setCell] at HX
              refine ⟨⟨_, _, _, _, _, _, _, 0, rfl, rfl, rfl, HX⟩, ?_⟩
              have e1 := HX.now.left
              rw [HM.out]
              refine Nat.lt_of_le_of_lt (Nat.le_of_eq e1) ?_
              have h1 := HL.out
              have h2 := HL2.out
              simp only [half] at h1 h2 ⊢
              omega
          · simp only [show sideI true = 1 from rfl]
            cases hi with
            | nil =>
              simp only [ptr_none] at n1
              go_wp2_with fail
              have HN := HD2.out.makeHigh
              have HX := HN.high HL0.out HG2.out HS.out K1.out K3.out (kidsOk_new _ _ _)
              simp only [size_setCell, size_alloc] at HX
              refine ⟨⟨_, _, _, _, _, _, _, 1, rfl, rfl, rfl, HX⟩, ?_⟩
              have e1 := HX.now.left
              rw [HM.out]
              refine Nat.lt_of_le_of_lt (Nat.le_of_eq e1) ?_
              have h1 := HL.out
              have h2 := HL2.out
              simp only [half] at h1 h2 ⊢
              omega
            | nd b2 lo2 hi2 v2 is2 =>
              simp only [ptr_nd] at n1
              go_wp2_with fail
              have HN := HD2.out
              have HX := HN.high HL0.out HG2.out HS.out K1.out K3.out (kidsOk_wf K4.out (by simp))
              simp only [size_setCell] at HX
              refine ⟨⟨_, _, _, _, _, _, _, 1, rfl, rfl, rfl, HX⟩, ?_⟩
              have e1 := HX.now.left
              rw [HM.out]
              refine Nat.lt_of_le_of_lt (Nat.le_of_eq e1) ?_
              have h1 := HL.out
              have h2 := HL2.out
              simp only [half] at h1 h2 ⊢
              omega
end Go.Proofs.Ytechocnednepiaa
