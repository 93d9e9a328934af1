/- Tries of texts: down, find, Get. -/
import Derived.Test.YtechocnednepiaaP3
namespace Go.Proofs.Ytechocnednepiaa
open Go.RowKit

set_option maxHeartbeats 4000000 in
set_option maxRecDepth 100000 in
theorem sdown_is {f : Nat} {lb : Array Value} {ok : Nt → Prop} (eg : ∀ args w, (callFunc f args).run Try.prog w = .ok (.enter f args) w) {I : List (Pf × Nt) → (Nat → Prop) → World → Prop} (hN : Nodes 100 f lb ok I)
    {w : World} {T : Nat} {t : Nt} {z : Value} (hT : Tri 96 100 z w T t) {S : Nat → Prop} (hI : I [] S w) (hs : ∀ k ∈ T :: t.own, ¬ S k) (hok : ok t) {p : Pf} (hp : Gd p) :
    Calls Try.prog 66 #[.pointer (some ⟨T, 0, none⟩), pv p, .func (.func f) #[] lb] w fun e w' => e = .returned (.tuple #[]) ∧ ∃ S', I (t.path (0, 0) p) S' w' ∧ Keep S w w' ∧ ∀ k, S' k → S k ∨ w.heap.size ≤ k := by
  have HT := hide hT
  have HI := hide hI
  have HS := hide hs
  have HN := hide hN
  have HP := hide hp
  have HOK := hide hok
  obtain ⟨c0, c1, cf⟩ := top_cells hT.top
  have hTl := lt_of_block hT.top
  clear hT hI hs hN hp cf c1 hok
  obtain ⟨p0, p1⟩ := p
  unfold pv
  go_enter Try.func66, Try.ntmps66
  go_wp2_with fail
  refine (may_is p0 p1 true HP.out.may _ HP.out.1 HP.out.2.1).mono ?_
  rintro e w1 ⟨rfl, hb1⟩
  have B1 := hide (bthen (balloc (brefl w) _) hb1)
  have T1 := hide ((two_new w (p0, p1)).below hb1)
  have c0' : w1.cell? ⟨T, 0, none⟩ = some t.ptr := (B1.out.cell (p := ⟨T, 0, none⟩) hTl).trans c0
  obtain ⟨d0, d1, _, _⟩ := T1.out.cells
  have hz : w.heap.size < w1.heap.size := T1.out.lt
  have hTl1 : T < w1.heap.size := by omega
  clear hb1 c0
  go_wp2_with fail
  have HA := hide (down_start (p := (p0, p1)) (S := S) HT.out HI.out HS.out HP.out B1.out T1.out (fun k hk => HN.out.lt _ _ _ k HI.out hk) HN.out HOK.out)
  have hA := HA.out.old
  generalize w1.alloc (.cells #[.int .u32 0, .int .i64 0] 30) = W1 at *
  generalize w1.heap.size = A at *
  generalize w.heap.size = P at HA ⊢
  clear T1 B1 hz hTl1 d0 d1 c0' hA
  go_loopw [6, 8] (fun v6 v8 wr => ∃ (s : Nt) (c : Pf) (S' : Nat → Prop) (pre : List (Pf × Nt)) (h : Int), v6 = .int .i64 h ∧ v8 = s.ptr ∧ Hid (DownAt 100 ok I (p0, p1) w S (t.path (0, 0) (p0, p1)) P A wr s c S' pre)) (fun _ _ wr => bitsLeft wr A)
  case atStart => exact ⟨t, (0, 0), S, [], 0, rfl, rfl, HA⟩
  case round =>
    obtain ⟨s, c, S', pre, h, rfl, rfl, HD⟩ := hrel
    clear HA
    cases s with
    | nil =>
      simp only [ptr_none]
      go_wp2_with fail
      exact bodyPost_end (results_none Try.results66 _ _ _) rfl ⟨rfl, S', by rw [HD.out.all]; simpa [Nt.path] using HD.out.inv, HD.out.keep, HD.out.more⟩
    | nd b lo hi v is =>
      obtain ⟨a0, a1⟩ := c
      have CN := hide (HN.out.call pre S' wr ((a0, a1), .nd b lo hi v is) HD.out.inv (by have h1 := HD.out.len; have h2 := HD.out.good.2.2.2.1; simp only at h1 h2 ⊢; omega) HD.out.good (by simp) HD.out.lies HD.out.okay (fun k hk => (HD.out.apart k hk).1))
      obtain ⟨e0, e1, _, _⟩ := HD.out.now.cells
      have hgd := guardP
      simp only [ptr_nd]
      by_cases hcp : (a0, a1) = (p0, p1)
      · have HC := hide hcp
        simp only [Prod.mk.injEq] at hcp
        obtain ⟨rfl, rfl⟩ := hcp
        have heq : ∀ w, (binOp .eql 30 (.agg #[.int .u32 a0, .int .i64 a1]) (.agg #[.int .u32 a0, .int .i64 a1])).run Try.prog w = .ok (.bool true) w := fun w => by rw [eqP]; simp
        go_wp2_with fail
        refine CN.out.mono ?_
        rintro e w2 ⟨rfl, S2, hI2, hK2, hm2⟩
        have HD2 := hide (HD.out.called hI2 hK2 hm2)
        clear hI2 hK2 hm2 e0 e1 CN
        obtain ⟨e0, e1, ef0, ef1⟩ := HD2.out.now.cells
        obtain ⟨d0, d1, _, _⟩ := HD2.out.two.cells
        go_wp2_with fail
        exact bodyPost_ret (results_none Try.results66 _ _ _) rfl ⟨rfl, S2, by rw [HD2.out.all]; simpa [Nt.path] using HD2.out.inv, HD2.out.keep, HD2.out.more⟩
      · have HC := hide hcp
        have heq := eq_ne hcp
        clear hcp
        go_wp2_with fail
        refine CN.out.mono ?_
        rintro e w2 ⟨rfl, S2, hI2, hK2, hm2⟩
        have HD2 := hide (HD.out.called hI2 hK2 hm2)
        clear hI2 hK2 hm2 e0 e1 CN
        obtain ⟨e0, e1, ef0, ef1⟩ := HD2.out.now.cells
        obtain ⟨d0, d1, _, _⟩ := HD2.out.two.cells
        go_wp2_with fail
        refine (toward_is HD2.out.good HP.out HD2.out.isIn HC.out w2).mono ?_
        rintro e w3 ⟨rfl, hb3⟩
        have HD3 := hide (HD2.out.turned HN.out HC.out HP.out hb3)
        obtain ⟨e0, e1, ef0, ef1⟩ := (HD2.out.now.below hb3).cells
        generalize side (a0, a1) (p0, p1) = sd at *
        obtain ⟨n0, n1, _, _, _⟩ := node_cells (HD2.out.lies.below hb3).1
        have hbA : b ≠ A := fun e => by have := (HD2.out.apart b (by simp [Nt.own])).2; have := HD2.out.old; omega
        have HM := hide (show bitsLeft wr A = _ from HD.out.now.left)
        have HL := hide (HD2.out.isIn.lt HD2.out.good HP.out HC.out)
        have HL2 := hide HP.out.2.2.2.1
        clear hb3
        unfold pv
        cases sd
        · simp only [show sideI false = 0 from rfl]
          go_wp2_with fail
          refine ⟨⟨lo, _, S2, _, 0, rfl, rfl, HD3⟩, ?_⟩
          have := HD3.out.now.left
          rw [HM.out, this]
          have := HL.out
          have := HL2.out
          simp only [half] at *
          omega
        · simp only [show sideI true = 1 from rfl]
          go_wp2_with fail
          refine ⟨⟨hi, _, S2, _, 1, rfl, rfl, HD3⟩, ?_⟩
          have := HD3.out.now.left
          rw [HM.out, this]
          have := HL.out
          have := HL2.out
          simp only [half] at *
          omega
theorem sdown_nil (p : Pf) (f : Nat) (lb : Array Value) (w : World) :
    Calls Try.prog 66 #[.pointer none, pv p, .func (.func f) #[] lb] w fun e w' => e = .returned (.tuple #[]) ∧ Below w.heap.size w w' := by
  obtain ⟨p0, p1⟩ := p
  unfold pv
  go_enter Try.func66, Try.ntmps66
  go_wp2_with fail
  exact bodyPost_ret (results_none Try.results66 _ _ _) rfl ⟨rfl, balloc (brefl w) _⟩
theorem sdown_bad (T : Nat) (p : Pf) (f : Nat) (lb : Array Value) (w : World) (h0 : 0 ≤ p.1) (h1 : p.1 ≤ 4294967295) (hm : Ad.may p.1 p.2 = false) :
    Calls Try.prog 66 #[.pointer (some ⟨T, 0, none⟩), pv p, .func (.func f) #[] lb] w fun e w' => e = .returned (.tuple #[]) ∧ Below w.heap.size w w' := by
  obtain ⟨p0, p1⟩ := p
  unfold pv
  go_enter Try.func66, Try.ntmps66
  go_wp2_with fail
  refine (may_is p0 p1 false hm _ h0 h1).mono ?_
  rintro e w1 ⟨rfl, hb1⟩
  go_wp2_with fail
  exact bodyPost_ret (results_none Try.results66 _ _ _) rfl ⟨rfl, bthen (balloc (brefl w) _) hb1⟩

/-- What find's closure has come by. -/
def sFindI (p : Pf) (P F : Nat) (pre : List (Pf × Nt)) (S : Nat → Prop) (W : World) : Prop :=
  (∀ k, S k ↔ k = F ∨ k = P) ∧ P ≠ F ∧ W.heap[F]? = some (.cells #[(fnd p pre).ptr] 94 (0, 0)) ∧ Two W P p
theorem sfind1_eq (c0 c1 _b : Int) (P F : Nat) (n x : Nt) (W : World) (hn : n ≠ .nil) (h2 : Two W P (c0, c1)) (hF : W.heap[F]? = some (.cells #[x.ptr] 94 (0, 0))) :
    Calls Try.prog 67 #[.agg #[.int .u32 c0, .int .i64 c1], n.ptr, .pointer (some ⟨P, 0, none⟩), .pointer (some ⟨F, 0, none⟩)] W fun e w' => e = .returned (.tuple #[]) ∧ w' = (W.alloc (.cells #[.int .u32 c0, .int .i64 c1] 30)).setCell ⟨F, 0, none⟩ n.ptr := by
  obtain ⟨d0, d1, _, _⟩ := h2.cells
  have hPl := h2.lt
  have hFl := lt_of_block hF
  have f0 := cell_of_one hF
  have f1 := free_of_one hF
  have hgd := guardP
  have heq : ∀ w, (binOp .eql 30 (.agg #[.int .u32 c0, .int .i64 c1]) (.agg #[.int .u32 c0, .int .i64 c1])).run Try.prog w = .ok (.bool true) w := fun w => by rw [eqP]; simp
  cases n with
  | nil => exact absurd rfl hn
  | nd b lo hi v is =>
    simp only [ptr_nd]
    go_enter Try.func67, Try.ntmps67
    go_wp2_with fail
    exact bodyPost_end (results_none Try.results67 _ _ _) rfl ⟨rfl, rfl⟩
theorem sfind1_ne (c0 c1 p0 p1 : Int) (P F : Nat) (n : Value) (W : World) (hne : (c0, c1) ≠ (p0, p1)) (h2 : Two W P (p0, p1)) :
    Calls Try.prog 67 #[.agg #[.int .u32 c0, .int .i64 c1], n, .pointer (some ⟨P, 0, none⟩), .pointer (some ⟨F, 0, none⟩)] W fun e w' => e = .returned (.tuple #[]) ∧ w' = W.alloc (.cells #[.int .u32 c0, .int .i64 c1] 30) := by
  obtain ⟨d0, d1, _, _⟩ := h2.cells
  have hPl := h2.lt
  have hgd := guardP
  have heq := eq_ne hne
  clear hne
  go_enter Try.func67, Try.ntmps67
  go_wp2_with fail
  exact bodyPost_end (results_none Try.results67 _ _ _) rfl ⟨rfl, rfl⟩
theorem enter67 : ∀ args w, (callFunc 67 args).run Try.prog w = .ok (.enter 67 args) w := by intro args w; go_simp
theorem sfind1_nodes (p : Pf) (P F : Nat) : Nodes 100 67 #[.pointer (some ⟨P, 0, none⟩), .pointer (some ⟨F, 0, none⟩)] (fun _ => True) (sFindI p P F) where
  call := by
    rintro pre S W ⟨⟨c0, c1⟩, n⟩ ⟨hS, hPF, hF, h2⟩ _ hg hn hat _ _
    obtain ⟨p0, p1⟩ := p
    by_cases hc : (c0, c1) = (p0, p1)
    · have hc' := hc
      simp only [Prod.mk.injEq] at hc
      obtain ⟨rfl, rfl⟩ := hc
      refine Calls.mono (sfind1_eq c0 c1 0 P F n _ W hn h2 hF) ?_
      rintro e w' ⟨rfl, rfl⟩
      refine ⟨rfl, S, ⟨hS, hPF, ?_, ?_⟩, ((Keep.refl S W).alloc _).setCell (.inl ((hS _).2 (.inl rfl))) _, fun k hk => .inl hk⟩
      · rw [fnd_snoc, if_pos hc']
        exact one_setCell ((heap_alloc_lt _ _ _ (lt_of_block hF)).trans hF)
      · exact (h2.below (balloc (brefl _) _)).other hPF _
    · refine Calls.mono (sfind1_ne c0 c1 p0 p1 P F n.ptr W hc h2) ?_
      rintro e w' ⟨rfl, rfl⟩
      refine ⟨rfl, S, ⟨hS, hPF, ?_, ?_⟩, (Keep.refl S W).alloc _, fun k hk => .inl hk⟩
      · rw [fnd_snoc, if_neg hc]
        exact (heap_alloc_lt _ _ _ (lt_of_block hF)).trans hF
      · exact h2.below (balloc (brefl _) _)
  keep := by
    rintro pre S W W' ⟨hS, hPF, hF, h2⟩ hk
    exact ⟨hS, hPF, (hk F ((hS F).2 (.inl rfl))).trans hF, (hk P ((hS P).2 (.inr rfl))).trans h2⟩
  lt := by
    rintro pre S W k ⟨hS, hPF, hF, h2⟩ hk
    rcases (hS k).1 hk with rfl | rfl
    · exact lt_of_block hF
    · exact h2.lt
  hered := fun _ _ _ _ _ _ => ⟨trivial, trivial⟩
set_option maxHeartbeats 1000000 in
theorem sfind_is {z : Value} {w : World} {T : Nat} {t : Nt} (hT : Tri 96 100 z w T t) {p : Pf} (hp : Gd p) :
    Calls Try.prog 59 #[.pointer (some ⟨T, 0, none⟩), pv p] w fun e w' => e = .returned (t.sub (0, 0) p).ptr ∧ Below w.heap.size w w' := by
  have HT := hide hT
  have HP := hide hp
  clear hT hp
  have HI : Hid (sFindI p w.heap.size (w.heap.size + 1) [] (fun k => k = w.heap.size + 1 ∨ k = w.heap.size) ((w.alloc (.cells #[.int .u32 p.1, .int .i64 p.2] 30)).alloc (.cells #[.pointer none] 94))) :=
    ⟨fun k => Iff.rfl, by omega, by have := heap_alloc_new (w.alloc (.cells #[.int .u32 p.1, .int .i64 p.2] 30)) (.cells #[.pointer none] 94); rw [size_alloc] at this; exact this, (two_new w p).below (balloc (brefl _) _)⟩
  have HB := hide (balloc (balloc (brefl w) (.cells #[.int .u32 p.1, .int .i64 p.2] 30)) (.cells #[.pointer none] 94))
  have HT2 := hide (HT.out.below HB.out)
  have HS : Hid (∀ k ∈ T :: t.own, ¬ (k = w.heap.size + 1 ∨ k = w.heap.size)) := fun k hk e => by have := HT.out.lt k hk; omega
  obtain ⟨p0, p1⟩ := p
  unfold pv
  go_enter Try.func59, Try.ntmps59
  go_wp2_with fail
  generalize (w.alloc (.cells #[.int .u32 p0, .int .i64 p1] 30)).alloc (.cells #[.pointer none] 94) = W at *
  refine (sdown_is enter67 (sfind1_nodes (p0, p1) w.heap.size (w.heap.size + 1)) HT2.out HI.out HS.out trivial HP.out).mono ?_
  rintro e w2 ⟨rfl, S', hI, hk, hm⟩
  have HB2 : Hid (Below w.heap.size w w2) := hk.below' HB.out (fun k hk => by rcases hk with rfl | rfl <;> omega) HB.out.size
  have hF := hI.2.2.1
  have e : fnd (p0, p1) (t.path (0, 0) (p0, p1)) = t.sub (0, 0) (p0, p1) := Nt.fnd_path t _ _
  rw [e] at hF
  have f0 := cell_of_one hF
  clear hI hk hm hF e HI HT2 HS
  go_wp2_with fail
  go_ret
  exact ⟨rfl, HB2.out⟩
theorem sfind_nil (p : Pf) (w : World) : Calls Try.prog 59 #[.pointer none, pv p] w fun e w' => e = .returned (.pointer none) ∧ Below w.heap.size w w' := by
  obtain ⟨p0, p1⟩ := p
  have HD := hide (fun lb W => sdown_nil (p0, p1) 67 lb W)
  unfold pv
  go_enter Try.func59, Try.ntmps59
  go_wp2_with fail
  refine (HD.out _ _).mono ?_
  rintro e w2 ⟨rfl, hb⟩
  have HB2 := hide (bthen (balloc (balloc (brefl w) _) _) hb)
  have f0 : w2.cell? ⟨w.heap.size + 1, 0, none⟩ = some (.pointer none) := by rw [hb.cell (by simp)]; simp
  clear hb
  go_wp2_with fail
  go_ret
  exact ⟨rfl, HB2.out⟩
theorem sfind_bad (T : Nat) (p : Pf) (w : World) (h0 : 0 ≤ p.1) (h1 : p.1 ≤ 4294967295) (hm : Ad.may p.1 p.2 = false) : Calls Try.prog 59 #[.pointer (some ⟨T, 0, none⟩), pv p] w fun e w' => e = .returned (.pointer none) ∧ Below w.heap.size w w' := by
  obtain ⟨p0, p1⟩ := p
  have HD := hide (fun lb W => sdown_bad T (p0, p1) 67 lb W h0 h1 hm)
  unfold pv
  go_enter Try.func59, Try.ntmps59
  go_wp2_with fail
  refine (HD.out _ _).mono ?_
  rintro e w2 ⟨rfl, hb⟩
  have HB2 := hide (bthen (balloc (balloc (brefl w) _) _) hb)
  have f0 : w2.cell? ⟨w.heap.size + 1, 0, none⟩ = some (.pointer none) := by rw [hb.cell (by simp)]; simp
  clear hb
  go_wp2_with fail
  go_ret
  exact ⟨rfl, HB2.out⟩

set_option maxHeartbeats 1000000 in
theorem sget_is {w : World} {T : Nat} {t : Nt} (hT : Tri 96 100 (.string ⟨#[]⟩) w T t) {p : Pf} (hp : Gd p) :
    Calls Try.prog 37 #[.pointer (some ⟨T, 0, none⟩), pv p] w fun e w' => e = .returned (gets (.string ⟨#[]⟩) (look (t.list (0, 0)) p)) ∧ Below w.heap.size w w' := by
  have HG := hide (gets_sub hp hT.wf)
  have hA := hT.lies.sub (c := (0, 0)) (p := p)
  have CF := hide (sfind_is (hT.below (balloc (brefl w) (.cells #[.int .u32 p.1, .int .i64 p.2] 30))) hp)
  rw [← HG.out]
  clear hT hp HG
  generalize t.sub (0, 0) p = s at *
  obtain ⟨p0, p1⟩ := p
  unfold pv at CF ⊢
  cases s with
  | nil =>
    simp only [ptr_none] at CF
    go_enter Try.func37, Try.ntmps37
    go_wp2_with fail
    refine CF.out.mono ?_
    rintro e w2 ⟨rfl, hb⟩
    go_wp2_with fail
    go_ret2
    exact ⟨rfl, bthen (balloc (brefl w) _) hb⟩
  | nd b lo hi v is =>
    simp only [ptr_nd] at CF
    have HN := hide hA.1
    clear hA
    go_enter Try.func37, Try.ntmps37
    go_wp2_with fail
    refine CF.out.mono ?_
    rintro e w2 ⟨rfl, hb⟩
    have HB := hide (bthen (balloc (brefl w) _) hb)
    obtain ⟨n0, n1, n2, n3, _⟩ := node_cells ((HB.out.block b (lt_of_block HN.out)).trans HN.out)
    clear hb n0 n1
    go_wp2_with fail
    go_region
    all_goals go_wp2_with fail
    all_goals go_ret2
    all_goals exact ⟨rfl, HB.out.drew⟩
theorem sget_nil (p : Pf) (w : World) : Calls Try.prog 37 #[.pointer none, pv p] w fun e w' => e = .returned (gets (.string ⟨#[]⟩) none) ∧ Below w.heap.size w w' := by
  have CF := hide (fun W => sfind_nil p W)
  obtain ⟨p0, p1⟩ := p
  unfold pv at CF ⊢
  go_enter Try.func37, Try.ntmps37
  go_wp2_with fail
  refine (CF.out _).mono ?_
  rintro e w2 ⟨rfl, hb⟩
  go_wp2_with fail
  go_ret2
  exact ⟨rfl, bthen (balloc (brefl w) _) hb⟩
theorem sget_bad (T : Nat) (p : Pf) (w : World) (h0 : 0 ≤ p.1) (h1 : p.1 ≤ 4294967295) (hm : Ad.may p.1 p.2 = false) : Calls Try.prog 37 #[.pointer (some ⟨T, 0, none⟩), pv p] w fun e w' => e = .returned (gets (.string ⟨#[]⟩) none) ∧ Below w.heap.size w w' := by
  have CF := hide (fun W => sfind_bad T p W h0 h1 hm)
  clear hm h0 h1
  obtain ⟨p0, p1⟩ := p
  unfold pv at CF ⊢
  go_enter Try.func37, Try.ntmps37
  go_wp2_with fail
  refine (CF.out _).mono ?_
  rintro e w2 ⟨rfl, hb⟩
  go_wp2_with fail
  go_ret2
  exact ⟨rfl, bthen (balloc (brefl w) _) hb⟩
end Go.Proofs.Ytechocnednepiaa
