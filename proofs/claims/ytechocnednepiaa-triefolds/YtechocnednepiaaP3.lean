import Derived.Test.YtechocnednepiaaP2
/- The contracts of a trie's find and Get, of down where nothing is done. -/
namespace Go.Proofs.Ytechocnednepiaa
open Go.RowKit

theorem down_nil (p : Pf) (f : Nat) (lb : Array Value) (w : World) :
    Calls Try.prog 49 #[.pointer none, pv p, .func (.func f) #[] lb] w fun e w' => e = .returned (.tuple #[]) ∧ Below w.heap.size w w' := by
  obtain ⟨p0, p1⟩ := p
  unfold pv
  go_enter Try.func49, Try.ntmps49
  go_wp2_with fail
  exact bodyPost_ret (results_none Try.results49 _ _ _) rfl ⟨rfl, balloc (brefl w) _⟩
theorem down_bad (T : Nat) (p : Pf) (f : Nat) (lb : Array Value) (w : World) (h0 : 0 ≤ p.1) (h1 : p.1 ≤ 4294967295) (hm : Ad.may p.1 p.2 = false) :
    Calls Try.prog 49 #[.pointer (some ⟨T, 0, none⟩), pv p, .func (.func f) #[] lb] w fun e w' => e = .returned (.tuple #[]) ∧ Below w.heap.size w w' := by
  obtain ⟨p0, p1⟩ := p
  unfold pv
  go_enter Try.func49, Try.ntmps49
  go_wp2_with fail
  refine (may_is p0 p1 false hm _ h0 h1).mono ?_
  rintro e w1 ⟨rfl, hb1⟩
  go_wp2_with fail
  exact bodyPost_ret (results_none Try.results49 _ _ _) rfl ⟨rfl, bthen (balloc (brefl w) _) hb1⟩

/-- What find's closure has come by. -/
def FindI (p : Pf) (P F : Nat) (pre : List (Pf × Nt)) (S : Nat → Prop) (W : World) : Prop :=
  (∀ k, S k ↔ k = F ∨ k = P) ∧ P ≠ F ∧ W.heap[F]? = some (.cells #[(fnd p pre).ptr] 73 (0, 0)) ∧ Two W P p
theorem find1_eq (c0 c1 _b : Int) (P F : Nat) (n x : Nt) (W : World) (hn : n ≠ .nil) (h2 : Two W P (c0, c1)) (hF : W.heap[F]? = some (.cells #[x.ptr] 73 (0, 0))) :
    Calls Try.prog 63 #[.agg #[.int .u32 c0, .int .i64 c1], n.ptr, .pointer (some ⟨P, 0, none⟩), .pointer (some ⟨F, 0, none⟩)] W fun e w' => e = .returned (.tuple #[]) ∧ w' = (W.alloc (.cells #[.int .u32 c0, .int .i64 c1] 30)).setCell ⟨F, 0, none⟩ n.ptr := by
  obtain ⟨d0, d1, _, _⟩ := h2.cells
  have hPl := h2.lt
  have hFl := lt_of_block hF
  have f0 := cell_of_one hF
  have f1 := free_of_one hF
  have hgd := guardP
  have heq : ∀ w, (binOp .eql 30 (.agg #[.int .u32 c0, .int .i64 c1]) (.agg #[.int .u32 c0, .int .i64 c1])).run Try.prog w = .ok (.bool true) w := fun w => by rw [eqP]; simp
  cases n with
  | nil => exact absurd rfl hn
  | nd b lo hi v is =>
    simp only [ptr_nd]
    go_enter Try.func63, Try.ntmps63
    go_wp2_with fail
    exact bodyPost_end (results_none Try.results63 _ _ _) rfl ⟨rfl, rfl⟩
theorem find1_ne (c0 c1 p0 p1 : Int) (P F : Nat) (n : Value) (W : World) (hne : (c0, c1) ≠ (p0, p1)) (h2 : Two W P (p0, p1)) :
    Calls Try.prog 63 #[.agg #[.int .u32 c0, .int .i64 c1], n, .pointer (some ⟨P, 0, none⟩), .pointer (some ⟨F, 0, none⟩)] W fun e w' => e = .returned (.tuple #[]) ∧ w' = W.alloc (.cells #[.int .u32 c0, .int .i64 c1] 30) := by
  obtain ⟨d0, d1, _, _⟩ := h2.cells
  have hPl := h2.lt
  have hgd := guardP
  have heq := eq_ne hne
  clear hne
  go_enter Try.func63, Try.ntmps63
  go_wp2_with fail
  exact bodyPost_end (results_none Try.results63 _ _ _) rfl ⟨rfl, rfl⟩
theorem enter63 : ∀ args w, (callFunc 63 args).run Try.prog w = .ok (.enter 63 args) w := by intro args w; go_simp
theorem find1_nodes (p : Pf) (P F : Nat) : Nodes 89 63 #[.pointer (some ⟨P, 0, none⟩), .pointer (some ⟨F, 0, none⟩)] (fun _ => True) (FindI p P F) where
  call := by
    rintro pre S W ⟨⟨c0, c1⟩, n⟩ ⟨hS, hPF, hF, h2⟩ _ hg hn hat _ _
    obtain ⟨p0, p1⟩ := p
    by_cases hc : (c0, c1) = (p0, p1)
    · have hc' := hc
      simp only [Prod.mk.injEq] at hc
      obtain ⟨rfl, rfl⟩ := hc
      refine Calls.mono (find1_eq c0 c1 0 P F n _ W hn h2 hF) ?_
      rintro e w' ⟨rfl, rfl⟩
      refine ⟨rfl, S, ⟨hS, hPF, ?_, ?_⟩, ((Keep.refl S W).alloc _).setCell (.inl ((hS _).2 (.inl rfl))) _, fun k hk => .inl hk⟩
      · rw [fnd_snoc, if_pos hc']
        exact one_setCell ((heap_alloc_lt _ _ _ (lt_of_block hF)).trans hF)
      · exact (h2.below (balloc (brefl _) _)).other hPF _
    · refine Calls.mono (find1_ne c0 c1 p0 p1 P F n.ptr W hc h2) ?_
      rintro e w' ⟨rfl, rfl⟩
      refine ⟨rfl, S, ⟨hS, hPF, ?_, ?_⟩, (Keep.refl S W).alloc _, fun k hk => .inl hk⟩
      · rw [fnd_snoc, if_neg hc]
        exact (heap_alloc_lt _ _ _ (lt_of_block hF)).trans hF
      · exact h2.below (balloc (brefl _) _)
  keep := by
    rintro pre S W W' ⟨hS, hPF, hF, h2⟩ hk
    exact ⟨hS, hPF, (hk F ((hS F).2 (.inl rfl))).trans hF, (hk P ((hS P).2 (.inr rfl))).trans h2⟩
  lt := by
    rintro pre S W k ⟨hS, hPF, hF, h2⟩ hk
    rcases (hS k).1 hk with rfl | rfl
    · exact lt_of_block hF
    · exact h2.lt
  hered := fun _ _ _ _ _ _ => ⟨trivial, trivial⟩
set_option maxHeartbeats 1000000 in
theorem find_is {z : Value} {w : World} {T : Nat} {t : Nt} (hT : Tri 75 89 z w T t) {p : Pf} (hp : Gd p) :
    Calls Try.prog 53 #[.pointer (some ⟨T, 0, none⟩), pv p] w fun e w' => e = .returned (t.sub (0, 0) p).ptr ∧ Below w.heap.size w w' := by
  have HT := hide hT
  have HP := hide hp
  clear hT hp
  have HI : Hid (FindI p w.heap.size (w.heap.size + 1) [] (fun k => k = w.heap.size + 1 ∨ k = w.heap.size) ((w.alloc (.cells #[.int .u32 p.1, .int .i64 p.2] 30)).alloc (.cells #[.pointer none] 73))) :=
    ⟨fun k => Iff.rfl, by omega, by have := heap_alloc_new (w.alloc (.cells #[.int .u32 p.1, .int .i64 p.2] 30)) (.cells #[.pointer none] 73); rw [size_alloc] at this; exact this, (two_new w p).below (balloc (brefl _) _)⟩
  have HB := hide (balloc (balloc (brefl w) (.cells #[.int .u32 p.1, .int .i64 p.2] 30)) (.cells #[.pointer none] 73))
  have HT2 := hide (HT.out.below HB.out)
  have HS : Hid (∀ k ∈ T :: t.own, ¬ (k = w.heap.size + 1 ∨ k = w.heap.size)) := fun k hk e => by have := HT.out.lt k hk; omega
  obtain ⟨p0, p1⟩ := p
  unfold pv
  go_enter Try.func53, Try.ntmps53
  go_wp2_with fail
  generalize (w.alloc (.cells #[.int .u32 p0, .int .i64 p1] 30)).alloc (.cells #[.pointer none] 73) = W at *
  refine (down_is enter63 (find1_nodes (p0, p1) w.heap.size (w.heap.size + 1)) HT2.out HI.out HS.out trivial HP.out).mono ?_
  rintro e w2 ⟨rfl, S', hI, hk, hm⟩
  have HB2 : Hid (Below w.heap.size w w2) := hk.below' HB.out (fun k hk => by rcases hk with rfl | rfl <;> omega) HB.out.size
  have hF := hI.2.2.1
  have e : fnd (p0, p1) (t.path (0, 0) (p0, p1)) = t.sub (0, 0) (p0, p1) := Nt.fnd_path t _ _
  rw [e] at hF
  have f0 := cell_of_one hF
  clear hI hk hm hF e HI HT2 HS
  go_wp2_with fail
  go_ret
  exact ⟨rfl, HB2.out⟩
theorem find_nil (p : Pf) (w : World) : Calls Try.prog 53 #[.pointer none, pv p] w fun e w' => e = .returned (.pointer none) ∧ Below w.heap.size w w' := by
  obtain ⟨p0, p1⟩ := p
  have HD := hide (fun lb W => down_nil (p0, p1) 63 lb W)
  unfold pv
  go_enter Try.func53, Try.ntmps53
  go_wp2_with fail
  refine (HD.out _ _).mono ?_
  rintro e w2 ⟨rfl, hb⟩
  have HB2 := hide (bthen (balloc (balloc (brefl w) _) _) hb)
  have f0 : w2.cell? ⟨w.heap.size + 1, 0, none⟩ = some (.pointer none) := by rw [hb.cell (by simp)]; simp
  clear hb
  go_wp2_with fail
  go_ret
  exact ⟨rfl, HB2.out⟩
theorem find_bad (T : Nat) (p : Pf) (w : World) (h0 : 0 ≤ p.1) (h1 : p.1 ≤ 4294967295) (hm : Ad.may p.1 p.2 = false) : Calls Try.prog 53 #[.pointer (some ⟨T, 0, none⟩), pv p] w fun e w' => e = .returned (.pointer none) ∧ Below w.heap.size w w' := by
  obtain ⟨p0, p1⟩ := p
  have HD := hide (fun lb W => down_bad T (p0, p1) 63 lb W h0 h1 hm)
  unfold pv
  go_enter Try.func53, Try.ntmps53
  go_wp2_with fail
  refine (HD.out _ _).mono ?_
  rintro e w2 ⟨rfl, hb⟩
  have HB2 := hide (bthen (balloc (balloc (brefl w) _) _) hb)
  have f0 : w2.cell? ⟨w.heap.size + 1, 0, none⟩ = some (.pointer none) := by rw [hb.cell (by simp)]; simp
  clear hb
  go_wp2_with fail
  go_ret
  exact ⟨rfl, HB2.out⟩

/-- What Get answers. -/
def gets (z : Value) (o : Option Value) : Value := .tuple #[o.getD z, .bool o.isSome]
theorem gets_sub {z : Value} {t : Nt} {p : Pf} (hp : Gd p) (hw : t.wf z 32) : (match t.sub (0, 0) p with | .nil => Value.tuple #[z, .bool false] | .nd _ _ _ v is => .tuple #[v, .bool is]) = gets z (look (t.list (0, 0)) p) := by
  have h1 := Nt.sub_look t (0, 0) p gd_root hp (in_root hp) hw
  have h2 := Nt.sub_wf t (0, 0) p gd_root hp (in_root hp) hw
  rw [h1]
  cases hs : t.sub (0, 0) p with
  | nil => rfl
  | nd b lo hi v is =>
    cases is
    · rw [hs] at h2
      have := h2.2.1 rfl
      subst this
      rfl
    · rfl
set_option maxHeartbeats 1000000 in
theorem get_is {w : World} {T : Nat} {t : Nt} (hT : Tri 75 89 (.int .i64 0) w T t) {p : Pf} (hp : Gd p) :
    Calls Try.prog 27 #[.pointer (some ⟨T, 0, none⟩), pv p] w fun e w' => e = .returned (gets (.int .i64 0) (look (t.list (0, 0)) p)) ∧ Below w.heap.size w w' := by
  have HG := hide (gets_sub hp hT.wf)
  have hA := hT.lies.sub (c := (0, 0)) (p := p)
  have CF := hide (find_is (hT.below (balloc (brefl w) (.cells #[.int .u32 p.1, .int .i64 p.2] 30))) hp)
  rw [← HG.out]
  clear hT hp HG
  generalize t.sub (0, 0) p = s at *
  obtain ⟨p0, p1⟩ := p
  unfold pv at CF ⊢
  cases s with
  | nil =>
    simp only [ptr_none] at CF
    go_enter Try.func27, Try.ntmps27
    go_wp2_with fail
    refine CF.out.mono ?_
    rintro e w2 ⟨rfl, hb⟩
    go_wp2_with fail
    go_ret2
    exact ⟨rfl, bthen (balloc (brefl w) _) hb⟩
  | nd b lo hi v is =>
    simp only [ptr_nd] at CF
    have HN := hide hA.1
    clear hA
    go_enter Try.func27, Try.ntmps27
    go_wp2_with fail
    refine CF.out.mono ?_
    rintro e w2 ⟨rfl, hb⟩
    have HB := hide (bthen (balloc (brefl w) _) hb)
    obtain ⟨n0, n1, n2, n3, _⟩ := node_cells ((HB.out.block b (lt_of_block HN.out)).trans HN.out)
    clear hb n0 n1
    go_wp2_with fail
    go_region
    all_goals go_wp2_with fail
    all_goals go_ret2
    all_goals exact ⟨rfl, HB.out.drew⟩
theorem get_nil (p : Pf) (w : World) : Calls Try.prog 27 #[.pointer none, pv p] w fun e w' => e = .returned (gets (.int .i64 0) none) ∧ Below w.heap.size w w' := by
  have CF := hide (fun W => find_nil p W)
  obtain ⟨p0, p1⟩ := p
  unfold pv at CF ⊢
  go_enter Try.func27, Try.ntmps27
  go_wp2_with fail
  refine (CF.out _).mono ?_
  rintro e w2 ⟨rfl, hb⟩
  go_wp2_with fail
  go_ret2
  exact ⟨rfl, bthen (balloc (brefl w) _) hb⟩
theorem get_bad (T : Nat) (p : Pf) (w : World) (h0 : 0 ≤ p.1) (h1 : p.1 ≤ 4294967295) (hm : Ad.may p.1 p.2 = false) : Calls Try.prog 27 #[.pointer (some ⟨T, 0, none⟩), pv p] w fun e w' => e = .returned (gets (.int .i64 0) none) ∧ Below w.heap.size w w' := by
  have CF := hide (fun W => find_bad T p W h0 h1 hm)
  clear hm h0 h1
  obtain ⟨p0, p1⟩ := p
  unfold pv at CF ⊢
  go_enter Try.func27, Try.ntmps27
  go_wp2_with fail
  refine (CF.out _).mono ?_
  rintro e w2 ⟨rfl, hb⟩
  go_wp2_with fail
  go_ret2
  exact ⟨rfl, bthen (balloc (brefl w) _) hb⟩
end Go.Proofs.Ytechocnednepiaa
