/- The law TrieNils. -/
import Derived.Test.YtechocnednepiaaL7
import Derived.Test.YtechocnednepiaaSb
namespace Go.Proofs.Ytechocnednepiaa
open Go.RowKit

theorem snew_is (w : World) : Calls Try.prog 35 #[] w fun e w' => e = .returned (.pointer (some ⟨w.heap.size, 0, none⟩)) ∧ w' = w.alloc (.cells #[.pointer none, .int .i64 0] 96) := by
  go_enter Try.func35, Try.ntmps35
  go_wp2_with fail
  go_ret
  exact ⟨rfl, rfl⟩
/-- What the law asks of two tries of texts. -/
structure Twin (p : Pf) (m : Bool) (A B : Nat) (w : World) : Prop where
  put : Calls Try.prog 36 #[.pointer (some ⟨A, 0, none⟩), pv p, .string ⟨#[120]⟩] w fun e w' => e = .returned (.tuple #[.bool false, .int .i64 (if m then 0 else 1)]) ∧ Keep (fun k => k = A) w w' ∧
    (∀ W, Below w'.heap.size w' W → Calls Try.prog 37 #[.pointer (some ⟨A, 0, none⟩), pv p] W fun e w2 => e = .returned (.tuple #[.string (if m then ⟨#[120]⟩ else ⟨#[]⟩), .bool m]) ∧ Below W.heap.size W w2) ∧
    (∀ W, Below w'.heap.size w' W → Calls Try.prog 37 #[.pointer (some ⟨B, 0, none⟩), pv p] W fun e w2 => e = .returned (.tuple #[.string ⟨#[]⟩, .bool false]) ∧ Below W.heap.size W w2)
theorem twin_of (p : Pf) (m : Bool) (h0 : 0 ≤ p.1) (h1 : p.1 ≤ 4294967295) (hm : Ad.may p.1 p.2 = m) (w : World) : Twin p m w.heap.size (w.heap.size + 1) ((w.alloc (.cells #[.pointer none, .int .i64 0] 96)).alloc (.cells #[.pointer none, .int .i64 0] 96)) := by
  have hA := (tri_new 96 100 (.string ⟨#[]⟩) w).below (balloc (brefl _) (.cells #[.pointer none, .int .i64 0] 96))
  have hB := tri_new 96 100 (.string ⟨#[]⟩) (w.alloc (.cells #[.pointer none, .int .i64 0] 96))
  rw [size_alloc] at hB
  generalize (w.alloc (.cells #[.pointer none, .int .i64 0] 96)).alloc (.cells #[.pointer none, .int .i64 0] 96) = W at *
  generalize w.heap.size = A at *
  constructor
  cases m
  · refine Calls.mono (sput_bad A p ⟨#[120]⟩ W h0 h1 hm) ?_
    rintro e w' ⟨rfl, hb⟩
    exact ⟨rfl, Keep.of hb, fun W2 _ => sget_bad A p W2 h0 h1 hm, fun W2 _ => sget_bad (A + 1) p W2 h0 h1 hm⟩
  · have hp := gd_of h0 h1 hm
    refine Calls.mono (sput_is hA hp ⟨#[120]⟩ (by simp [Nt.list])) ?_
    rintro e w' ⟨is, t', pre, o, post, rfl, hP⟩
    have hl := put_one hP
    have his : is = false := by
      rcases hP.one with ⟨h, _⟩ | ⟨_, x, h⟩
      · exact h
      · have hw := hP.was
        rw [h] at hw
        have := congrArg List.length hw
        simp [Nt.list] at this
    subst his
    have hk : Keep (fun k => k = A) W w' := hP.keep.mono fun k hk => by simpa [Nt.own] using hk
    have hB' := hB.kept hk (fun k hk e => by simp [Nt.own] at hk; omega)
    refine ⟨rfl, hk, fun W2 hW => ?_, fun W2 hW => ?_⟩
    · have := sget_is (hP.tri.below hW) hp
      rw [hl] at this
      simpa [look, gets] using this
    · have := sget_is (hB'.below hW) hp
      simpa [Nt.list, look, gets] using this
set_option maxHeartbeats 16000000 in
set_option maxRecDepth 100000 in
theorem law_nils (k v : Int) (p : Pf) (a : Int) (w : World) (h0 : 0 ≤ p.1) (h1 : p.1 ≤ 4294967295) :
    Calls Try.prog 8 #[.agg #[.int .i64 k, .int .i64 v, .int .u32 p.1, .int .i64 p.2, .int .u32 a]] w fun e w' => e = .returned (.bool true) ∧ Below w.heap.size w w' := by
  obtain ⟨m, hm⟩ : ∃ m, Ad.may p.1 p.2 = m := ⟨_, rfl⟩
  have CPu := hide (fun W => put_nil p 1 W)
  have CGe := hide (fun W => get_nil p W)
  have CLo := hide (fun W => longest_nil a W)
  have CEa := hide (fun fv W => each_nil fv W)
  have CDr := hide (fun W => drop_nil p W)
  have CAb := hide (fun W => above_nil p W)
  have CBe := hide (fun W => below_nil p W)
  have CLe := hide (fun W => len_nil W)
  have CTw := hide (fun W => twin_of p m h0 h1 hm W)
  have CMa := hide (fun W => refMay_is p.1 p.2 m hm W h0 h1)
  have CV := hide (fun W => lives_is W)
  have FV := hide (five_new w k v p a)
  have HB := hide (balloc (brefl w) (.cells #[.int .i64 k, .int .i64 v, .int .u32 p.1, .int .i64 p.2, .int .u32 a] 32))
  clear hm h0 h1
  obtain ⟨p0, p1⟩ := p
  unfold pv at CPu CGe CDr CAb CBe
  unfold gets at CGe
  unfold longs pv at CLo
  simp only [Option.getD_none, Option.isSome_none, Option.map_none] at CGe CLo
  go_enter Try.func8, Try.ntmps8
  go_wp2_with fail
  generalize w.alloc (.cells #[.int .i64 k, .int .i64 v, .int .u32 p0, .int .i64 p1, .int .u32 a] 32) = W at *
  obtain ⟨O, hO⟩ : ∃ O, O = w.heap.size := ⟨_, rfl⟩
  rw [← hO] at FV ⊢
  have HO := hide hO
  clear hO
  refine (CPu.out _).mono ?_
  rintro e w1 ⟨rfl, hb1⟩
  replace HB := hide (bthen HB.out hb1)
  replace FV := hide (FV.out.below hb1)
  obtain ⟨g0, g1, g2, g3, g4⟩ := FV.out.cells
  clear hb1
  go_wp2_with fail
  refine (CGe.out _).mono ?_
  rintro e w2 ⟨rfl, hb1⟩
  replace HB := hide (bthen HB.out hb1)
  replace FV := hide (FV.out.below hb1)
  obtain ⟨g0, g1, g2, g3, g4⟩ := FV.out.cells
  clear hb1
  go_wp2_with fail
  refine (CLo.out _).mono ?_
  rintro e w3 ⟨rfl, hb1⟩
  replace HB := hide (bthen HB.out hb1)
  replace FV := hide (FV.out.below hb1)
  obtain ⟨g0, g1, g2, g3, g4⟩ := FV.out.cells
  clear hb1
  go_wp2_with fail
  have TB := hide (two_new w3 (0, 0))
  replace HB := hide (bthen HB.out (balloc (brefl w3) (.cells #[.int .u32 0, .int .i64 0] 30)))
  replace FV := hide (FV.out.below (balloc (brefl w3) (.cells #[.int .u32 0, .int .i64 0] 30)))
  generalize w3.alloc (.cells #[.int .u32 0, .int .i64 0] 30) = W4 at *
  generalize w3.heap.size = B at *
  refine (CEa.out _ _).mono ?_
  rintro e w5 ⟨rfl, rfl⟩
  obtain ⟨g0, g1, g2, g3, g4⟩ := FV.out.cells
  obtain ⟨b0, b1, _, _⟩ := TB.out.cells
  have FD := hide (FV.out.below (Below.drew (brefl _)))
  have TD := hide (TB.out.below (Below.drew (brefl _)))
  have hgd := guardP
  have heq := neq_eq 0 0
  have hw0 : IntKind.i64.wrap 0 = 0 := by decide
  go_wp2_with fail
  refine wp_region_held_drew (S := fun w' => (w'.cell? ⟨O, 2, none⟩ = some (.int .u32 p0) ∧ w'.cell? ⟨O, 3, none⟩ = some (.int .i64 p1)) ∧ (w'.cell? ⟨B, 0, none⟩ = some (.int .u32 0) ∧ w'.cell? ⟨B, 1, none⟩ = some (.int .i64 0))) (by kernel_rfl) ⟨⟨g2, g3⟩, ⟨b0, b1⟩⟩ (fun hHeld => ?_)
  refine wpAnyH_take (i := 0) (v := .int .i64 1) rfl (by kernel_rfl) (by kernel_rfl) (by kernel_rfl) (fun _ _ _ h => h) (Or.inl ⟨by rfl, fun w hSw => by dsimp only at hSw; go_simp⟩) hHeld ?_
  simp only [Act.put, List.getElem_toArray, List.getElem_cons_zero, List.setIfInBounds_toArray, List.set_cons_zero, List.set_cons_succ]
  refine wpAnyH_take (i := 1) (v := .bool false) rfl (by kernel_rfl) (by kernel_rfl) (by kernel_rfl) (fun _ _ _ h => h) (Or.inl ⟨by rfl, fun w hSw => by dsimp only at hSw; go_simp⟩) hHeld ?_
  simp only [Act.put, List.getElem_toArray, List.getElem_cons_zero, List.getElem_cons_succ, List.setIfInBounds_toArray, List.set_cons_zero, List.set_cons_succ]
  refine wpAnyH_take (i := 2) (v := .bool false) rfl (by kernel_rfl) (by kernel_rfl) (by kernel_rfl) (fun _ _ _ h => h) (Or.inl ⟨by rfl, fun w hSw => by dsimp only at hSw; go_simp⟩) hHeld ?_
  simp only [Act.put, List.getElem_toArray, List.getElem_cons_zero, List.getElem_cons_succ, List.setIfInBounds_toArray, List.set_cons_zero, List.set_cons_succ]
  refine wpAnyH_take (i := 3) (v := .int .i64 0) rfl (by kernel_rfl) (by kernel_rfl) (by kernel_rfl) (fun _ _ _ h => h) (Or.inl ⟨by rfl, fun w hSw => by dsimp only at hSw; go_simp⟩) hHeld ?_
  simp only [Act.put, List.getElem_toArray, List.getElem_cons_zero, List.getElem_cons_succ, List.setIfInBounds_toArray, List.set_cons_zero, List.set_cons_succ]
  refine wpAnyH_take (i := 4) (v := .bool false) rfl (by kernel_rfl) (by kernel_rfl) (by kernel_rfl) (fun _ _ _ h => h) (Or.inl ⟨by rfl, fun w hSw => by dsimp only at hSw; go_simp⟩) hHeld ?_
  simp only [Act.put, List.getElem_toArray, List.getElem_cons_zero, List.getElem_cons_succ, List.setIfInBounds_toArray, List.set_cons_zero, List.set_cons_succ]
  refine wpAnyH_take (i := 5) (v := .bool false) rfl (by kernel_rfl) (by kernel_rfl) (by kernel_rfl) (fun _ _ _ h => h) (Or.inl ⟨by rfl, fun w hSw => by dsimp only at hSw; go_simp⟩) hHeld ?_
  simp only [Act.put, List.getElem_toArray, List.getElem_cons_zero, List.getElem_cons_succ, List.setIfInBounds_toArray, List.set_cons_zero, List.set_cons_succ]
  refine wpAnyH_take (i := 6) (v := .bool false) rfl (by kernel_rfl) (by kernel_rfl) (by kernel_rfl) (fun _ _ _ h => h) (Or.inl ⟨by rfl, fun w hSw => by dsimp only at hSw; go_simp⟩) hHeld ?_
  simp only [Act.put, List.getElem_toArray, List.getElem_cons_zero, List.getElem_cons_succ, List.setIfInBounds_toArray, List.set_cons_zero, List.set_cons_succ]
  refine wpAnyH_take (i := 7) (v := .bool false) rfl (by kernel_rfl) (by kernel_rfl) (by kernel_rfl) (fun _ _ _ h => h) (Or.inl ⟨by rfl, fun w hSw => by dsimp only at hSw; go_simp⟩) hHeld ?_
  simp only [Act.put, List.getElem_toArray, List.getElem_cons_zero, List.getElem_cons_succ, List.setIfInBounds_toArray, List.set_cons_zero, List.set_cons_succ]
  refine wpAnyH_take (i := 8) (v := .bool false) rfl (by kernel_rfl) (by kernel_rfl) (by kernel_rfl) (fun _ _ _ h => h) (Or.inl ⟨by rfl, fun w hSw => by dsimp only at hSw; go_simp⟩) hHeld ?_
  simp only [Act.put, List.getElem_toArray, List.getElem_cons_zero, List.getElem_cons_succ, List.setIfInBounds_toArray, List.set_cons_zero, List.set_cons_succ]
  refine wpAnyH_take (i := 9) (v := .bool false) rfl (by kernel_rfl) (by kernel_rfl) (by kernel_rfl) (fun _ _ _ h => h) (Or.inl ⟨by rfl, fun w hSw => by dsimp only at hSw; go_simp⟩) hHeld ?_
  simp only [Act.put, List.getElem_toArray, List.getElem_cons_zero, List.getElem_cons_succ, List.setIfInBounds_toArray, List.set_cons_zero, List.set_cons_succ]
  refine wpAnyH_take (i := 10) (v := .pointer none) rfl (by kernel_rfl) (by kernel_rfl) (by kernel_rfl) (fun _ _ _ h => h) (Or.inl ⟨by rfl, fun w hSw => by dsimp only at hSw; go_simp⟩) hHeld ?_
  simp only [Act.put, List.getElem_toArray, List.getElem_cons_zero, List.getElem_cons_succ, List.setIfInBounds_toArray, List.set_cons_zero, List.set_cons_succ]
  refine wpAnyH_take (i := 11) (v := .pointer (some ⟨O, 2, none⟩)) rfl (by kernel_rfl) (by kernel_rfl) (by kernel_rfl) (fun _ _ _ h => h) (Or.inl ⟨by rfl, fun w hSw => by dsimp only at hSw; go_simp⟩) hHeld ?_
  simp only [Act.put, List.getElem_toArray, List.getElem_cons_zero, List.getElem_cons_succ, List.setIfInBounds_toArray, List.set_cons_zero, List.set_cons_succ]
  refine wpAnyH_take (i := 12) (v := .agg #[.int .u32 p0, .int .i64 p1]) rfl (by kernel_rfl) (by kernel_rfl) (by kernel_rfl) (fun _ _ _ h => h) (Or.inl ⟨by rfl, fun w hSw => by dsimp only at hSw; go_simp⟩) hHeld ?_
  simp only [Act.put, List.getElem_toArray, List.getElem_cons_zero, List.getElem_cons_succ, List.setIfInBounds_toArray, List.set_cons_zero, List.set_cons_succ]
  refine wpAnyH_ready (rs := [13]) (by kernel_rfl) (by simp) ?_
  refine AllReadyH.cons rfl (fun K hK => ?_) AllReadyH.nil
  go_simp
  go_wp2_with (go_at_call 22; refine (CDr.out _).mono ?_; rintro e wa ⟨rfl, hba⟩; have HBa := hide (bthen HB.out.drew hba); have Fa := hide (FD.out.below hba); have Ta := hide (TD.out.below hba); have HHa := hide (And.intro (And.intro Fa.out.cells.2.2.1 Fa.out.cells.2.2.2.1) (And.intro Ta.out.cells.1 Ta.out.cells.2.1)); clear hba)
  refine hK.out _ _ HHa.out (fun hHeld => ?_)
  clear hK K
  try simp only [Act.put, List.getElem_toArray, List.getElem_cons_zero, List.getElem_cons_succ, List.setIfInBounds_toArray, List.set_cons_zero, List.set_cons_succ]
  refine wpAnyH_take (i := 14) (v := .bool false) rfl (by kernel_rfl) (by kernel_rfl) (by kernel_rfl) (fun _ _ _ h => h) (Or.inl ⟨by rfl, fun w hSw => by dsimp only at hSw; go_simp⟩) hHeld ?_
  simp only [Act.put, List.getElem_toArray, List.getElem_cons_zero, List.getElem_cons_succ, List.setIfInBounds_toArray, List.set_cons_zero, List.set_cons_succ]
  refine wpAnyH_take (i := 15) (v := .bool false) rfl (by kernel_rfl) (by kernel_rfl) (by kernel_rfl) (fun _ _ _ h => h) (Or.inl ⟨by rfl, fun w hSw => by dsimp only at hSw; go_simp⟩) hHeld ?_
  simp only [Act.put, List.getElem_toArray, List.getElem_cons_zero, List.getElem_cons_succ, List.setIfInBounds_toArray, List.set_cons_zero, List.set_cons_succ]
  refine wpAnyH_take (i := 16) (v := .agg #[.int .u32 0, .int .i64 0]) rfl (by kernel_rfl) (by kernel_rfl) (by kernel_rfl) (fun _ _ _ h => h) (Or.inl ⟨by rfl, fun w hSw => by dsimp only at hSw; go_simp⟩) hHeld ?_
  simp only [Act.put, List.getElem_toArray, List.getElem_cons_zero, List.getElem_cons_succ, List.setIfInBounds_toArray, List.set_cons_zero, List.set_cons_succ]
  refine wpAnyH_take (i := 17) (v := .agg #[.int .u32 0, .int .i64 0]) rfl (by kernel_rfl) (by kernel_rfl) (by kernel_rfl) (fun _ _ _ h => h) (Or.inl ⟨by rfl, fun w hSw => by dsimp only at hSw; go_simp⟩) hHeld ?_
  simp only [Act.put, List.getElem_toArray, List.getElem_cons_zero, List.getElem_cons_succ, List.setIfInBounds_toArray, List.set_cons_zero, List.set_cons_succ]
  refine wpAnyH_take (i := 18) (v := .bool false) rfl (by kernel_rfl) (by kernel_rfl) (by kernel_rfl) (fun _ _ _ h => h) (Or.inl ⟨by rfl, fun w hSw => by dsimp only at hSw; go_simp⟩) hHeld ?_
  simp only [Act.put, List.getElem_toArray, List.getElem_cons_zero, List.getElem_cons_succ, List.setIfInBounds_toArray, List.set_cons_zero, List.set_cons_succ]
  refine wpAnyH_take (i := 19) (v := .bool false) rfl (by kernel_rfl) (by kernel_rfl) (by kernel_rfl) (fun _ _ _ h => h) (Or.inl ⟨by rfl, fun w hSw => by dsimp only at hSw; go_simp⟩) hHeld ?_
  simp only [Act.put, List.getElem_toArray, List.getElem_cons_zero, List.getElem_cons_succ, List.setIfInBounds_toArray, List.set_cons_zero, List.set_cons_succ]
  refine wpAnyH_take (i := 20) (v := .bool false) rfl (by kernel_rfl) (by kernel_rfl) (by kernel_rfl) (fun _ _ _ h => h) (Or.inl ⟨by rfl, fun w hSw => by dsimp only at hSw; go_simp⟩) hHeld ?_
  simp only [Act.put, List.getElem_toArray, List.getElem_cons_zero, List.getElem_cons_succ, List.setIfInBounds_toArray, List.set_cons_zero, List.set_cons_succ]
  refine wpAnyH_take (i := 21) (v := .int .i64 0) rfl (by kernel_rfl) (by kernel_rfl) (by kernel_rfl) (fun _ _ _ h => h) (Or.inl ⟨by rfl, fun w hSw => by dsimp only at hSw; go_simp⟩) hHeld ?_
  simp only [Act.put, List.getElem_toArray, List.getElem_cons_zero, List.getElem_cons_succ, List.setIfInBounds_toArray, List.set_cons_zero, List.set_cons_succ]
  refine wpAnyH_take (i := 22) (v := .bool false) rfl (by kernel_rfl) (by kernel_rfl) (by kernel_rfl) (fun _ _ _ h => h) (Or.inl ⟨by rfl, fun w hSw => by dsimp only at hSw; go_simp⟩) hHeld ?_
  simp only [Act.put, List.getElem_toArray, List.getElem_cons_zero, List.getElem_cons_succ, List.setIfInBounds_toArray, List.set_cons_zero, List.set_cons_succ]
  refine wpAnyH_take (i := 23) (v := .bool false) rfl (by kernel_rfl) (by kernel_rfl) (by kernel_rfl) (fun _ _ _ h => h) (Or.inl ⟨by rfl, fun w hSw => by dsimp only at hSw; go_simp⟩) hHeld ?_
  simp only [Act.put, List.getElem_toArray, List.getElem_cons_zero, List.getElem_cons_succ, List.setIfInBounds_toArray, List.set_cons_zero, List.set_cons_succ]
  refine wpAnyH_take (i := 24) (v := .bool false) rfl (by kernel_rfl) (by kernel_rfl) (by kernel_rfl) (fun _ _ _ h => h) (Or.inl ⟨by rfl, fun w hSw => by dsimp only at hSw; go_simp⟩) hHeld ?_
  simp only [Act.put, List.getElem_toArray, List.getElem_cons_zero, List.getElem_cons_succ, List.setIfInBounds_toArray, List.set_cons_zero, List.set_cons_succ]
  refine wpAnyH_take (i := 25) (v := .bool false) rfl (by kernel_rfl) (by kernel_rfl) (by kernel_rfl) (fun _ _ _ h => h) (Or.inl ⟨by rfl, fun w hSw => by dsimp only at hSw; go_simp⟩) hHeld ?_
  simp only [Act.put, List.getElem_toArray, List.getElem_cons_zero, List.getElem_cons_succ, List.setIfInBounds_toArray, List.set_cons_zero, List.set_cons_succ]
  refine wpAnyH_take (i := 26) (v := .bool false) rfl (by kernel_rfl) (by kernel_rfl) (by kernel_rfl) (fun _ _ _ h => h) (Or.inl ⟨by rfl, fun w hSw => by dsimp only at hSw; go_simp⟩) hHeld ?_
  simp only [Act.put, List.getElem_toArray, List.getElem_cons_zero, List.getElem_cons_succ, List.setIfInBounds_toArray, List.set_cons_zero, List.set_cons_succ]
  refine wpAnyH_take (i := 27) (v := .bool false) rfl (by kernel_rfl) (by kernel_rfl) (by kernel_rfl) (fun _ _ _ h => h) (Or.inl ⟨by rfl, fun w hSw => by dsimp only at hSw; go_simp⟩) hHeld ?_
  simp only [Act.put, List.getElem_toArray, List.getElem_cons_zero, List.getElem_cons_succ, List.setIfInBounds_toArray, List.set_cons_zero, List.set_cons_succ]
  refine wpAnyH_take (i := 28) (v := .pointer none) rfl (by kernel_rfl) (by kernel_rfl) (by kernel_rfl) (fun _ _ _ h => h) (Or.inl ⟨by rfl, fun w hSw => by dsimp only at hSw; go_simp⟩) hHeld ?_
  simp only [Act.put, List.getElem_toArray, List.getElem_cons_zero, List.getElem_cons_succ, List.setIfInBounds_toArray, List.set_cons_zero, List.set_cons_succ]
  refine wpAnyH_take (i := 29) (v := .pointer (some ⟨O, 2, none⟩)) rfl (by kernel_rfl) (by kernel_rfl) (by kernel_rfl) (fun _ _ _ h => h) (Or.inl ⟨by rfl, fun w hSw => by dsimp only at hSw; go_simp⟩) hHeld ?_
  simp only [Act.put, List.getElem_toArray, List.getElem_cons_zero, List.getElem_cons_succ, List.setIfInBounds_toArray, List.set_cons_zero, List.set_cons_succ]
  refine wpAnyH_take (i := 30) (v := .agg #[.int .u32 p0, .int .i64 p1]) rfl (by kernel_rfl) (by kernel_rfl) (by kernel_rfl) (fun _ _ _ h => h) (Or.inl ⟨by rfl, fun w hSw => by dsimp only at hSw; go_simp⟩) hHeld ?_
  simp only [Act.put, List.getElem_toArray, List.getElem_cons_zero, List.getElem_cons_succ, List.setIfInBounds_toArray, List.set_cons_zero, List.set_cons_succ]
  refine wpAnyH_take (i := 33) (v := .pointer none) rfl (by kernel_rfl) (by kernel_rfl) (by kernel_rfl) (fun _ _ _ h => h) (Or.inl ⟨by rfl, fun w hSw => by dsimp only at hSw; go_simp⟩) hHeld ?_
  simp only [Act.put, List.getElem_toArray, List.getElem_cons_zero, List.getElem_cons_succ, List.setIfInBounds_toArray, List.set_cons_zero, List.set_cons_succ]
  refine wpAnyH_take (i := 34) (v := .pointer (some ⟨O, 2, none⟩)) rfl (by kernel_rfl) (by kernel_rfl) (by kernel_rfl) (fun _ _ _ h => h) (Or.inl ⟨by rfl, fun w hSw => by dsimp only at hSw; go_simp⟩) hHeld ?_
  simp only [Act.put, List.getElem_toArray, List.getElem_cons_zero, List.getElem_cons_succ, List.setIfInBounds_toArray, List.set_cons_zero, List.set_cons_succ]
  refine wpAnyH_take (i := 35) (v := .agg #[.int .u32 p0, .int .i64 p1]) rfl (by kernel_rfl) (by kernel_rfl) (by kernel_rfl) (fun _ _ _ h => h) (Or.inl ⟨by rfl, fun w hSw => by dsimp only at hSw; go_simp⟩) hHeld ?_
  simp only [Act.put, List.getElem_toArray, List.getElem_cons_zero, List.getElem_cons_succ, List.setIfInBounds_toArray, List.set_cons_zero, List.set_cons_succ]
  refine wpAnyH_take (i := 39) (v := .pointer none) rfl (by kernel_rfl) (by kernel_rfl) (by kernel_rfl) (fun _ _ _ h => h) (Or.inl ⟨by rfl, fun w hSw => by dsimp only at hSw; go_simp⟩) hHeld ?_
  simp only [Act.put, List.getElem_toArray, List.getElem_cons_zero, List.getElem_cons_succ, List.setIfInBounds_toArray, List.set_cons_zero, List.set_cons_succ]
  refine wpAnyH_ready (rs := [31]) (by kernel_rfl) (by simp) ?_
  refine AllReadyH.cons rfl (fun K hK => ?_) AllReadyH.nil
  go_simp
  go_wp2_with (go_at_call 24; refine (CAb.out _).mono ?_; rintro e wb ⟨rfl, hbb⟩; have HBb := hide (bthen HBa.out hbb); have Fb := hide (Fa.out.below hbb); have Tb := hide (Ta.out.below hbb); have HHb := hide (And.intro (And.intro Fb.out.cells.2.2.1 Fb.out.cells.2.2.2.1) (And.intro Tb.out.cells.1 Tb.out.cells.2.1)); clear hbb)
  refine hK.out _ _ HHb.out (fun hHeld => ?_)
  clear hK K
  try simp only [Act.put, List.getElem_toArray, List.getElem_cons_zero, List.getElem_cons_succ, List.setIfInBounds_toArray, List.set_cons_zero, List.set_cons_succ]
  refine wpAnyH_take (i := 32) (v := .int .i64 0) rfl (by kernel_rfl) (by kernel_rfl) (by kernel_rfl) (fun _ _ _ h => h) (Or.inl ⟨by rfl, fun w hSw => by dsimp only at hSw; go_simp⟩) hHeld ?_
  simp only [Act.put, List.getElem_toArray, List.getElem_cons_zero, List.getElem_cons_succ, List.setIfInBounds_toArray, List.set_cons_zero, List.set_cons_succ]
  refine wpAnyH_ready (rs := [36]) (by kernel_rfl) (by simp) ?_
  refine AllReadyH.cons rfl (fun K hK => ?_) AllReadyH.nil
  go_simp
  go_wp2_with (go_at_call 30; refine (CBe.out _).mono ?_; rintro e wc ⟨ab, cb, rfl, _, hbc, _⟩; have HBc := hide (bthen HBb.out hbc); have Fc := hide (Fb.out.below hbc); have Tc := hide (Tb.out.below hbc); have HHc := hide (And.intro (And.intro Fc.out.cells.2.2.1 Fc.out.cells.2.2.2.1) (And.intro Tc.out.cells.1 Tc.out.cells.2.1)); clear hbc)
  refine hK.out _ _ HHc.out (fun hHeld => ?_)
  clear hK K
  try simp only [Act.put, List.getElem_toArray, List.getElem_cons_zero, List.getElem_cons_succ, List.setIfInBounds_toArray, List.set_cons_zero, List.set_cons_succ]
  refine wpAnyH_take (i := 37) (v := .int .i64 0) rfl (by kernel_rfl) (by kernel_rfl) (by kernel_rfl) (fun _ _ _ h => h) (Or.inl ⟨by rfl, fun w hSw => by dsimp only at hSw; go_simp⟩) hHeld ?_
  simp only [Act.put, List.getElem_toArray, List.getElem_cons_zero, List.getElem_cons_succ, List.setIfInBounds_toArray, List.set_cons_zero, List.set_cons_succ]
  refine wpAnyH_take (i := 38) (v := .int .i64 0) rfl (by kernel_rfl) (by kernel_rfl) (by kernel_rfl) (fun _ _ _ h => h) (Or.inl ⟨by rfl, fun w hSw => by dsimp only at hSw; go_simp⟩) hHeld ?_
  simp only [Act.put, List.getElem_toArray, List.getElem_cons_zero, List.getElem_cons_succ, List.setIfInBounds_toArray, List.set_cons_zero, List.set_cons_succ]
  refine wpAnyH_ready (rs := [40]) (by kernel_rfl) (by simp) ?_
  refine AllReadyH.cons rfl (fun K hK => ?_) AllReadyH.nil
  go_simp
  go_wp2_with (go_at_call 21; refine (CLe.out _).mono ?_; rintro e wd ⟨rfl, hwd⟩; have hwd' := hwd.symm; clear hwd; subst hwd')
  refine hK.out _ _ HHc.out (fun hHeld => ?_)
  clear hK K
  try simp only [Act.put, List.getElem_toArray, List.getElem_cons_zero, List.getElem_cons_succ, List.setIfInBounds_toArray, List.set_cons_zero, List.set_cons_succ]
  refine wpAnyH_take (i := 41) (v := .int .i64 0) rfl (by kernel_rfl) (by kernel_rfl) (by kernel_rfl) (fun _ _ _ h => h) (Or.inl ⟨by rfl, fun w hSw => by dsimp only at hSw; go_simp⟩) hHeld ?_
  simp only [Act.put, List.getElem_toArray, List.getElem_cons_zero, List.getElem_cons_succ, List.setIfInBounds_toArray, List.set_cons_zero, List.set_cons_succ]
  refine wpAnyH_take (i := 42) (v := .bool false) rfl (by kernel_rfl) (by kernel_rfl) (by kernel_rfl) (fun _ _ _ h => h) (Or.inl ⟨by rfl, fun w hSw => by dsimp only at hSw; go_simp⟩) hHeld ?_
  simp only [Act.put, List.getElem_toArray, List.getElem_cons_zero, List.getElem_cons_succ, List.setIfInBounds_toArray, List.set_cons_zero, List.set_cons_succ]
  refine wpAnyH_take (i := 43) (v := .bool false) rfl (by kernel_rfl) (by kernel_rfl) (by kernel_rfl) (fun _ _ _ h => h) (Or.inl ⟨by rfl, fun w hSw => by dsimp only at hSw; go_simp⟩) hHeld ?_
  simp only [Act.put, List.getElem_toArray, List.getElem_cons_zero, List.getElem_cons_succ, List.setIfInBounds_toArray, List.set_cons_zero, List.set_cons_succ]
  refine wpAnyH_done (by kernel_rfl) ?_ _
  clear hHeld HHa HHb HHc Fa Ta Tb FD TD TB FV g0 g1 g2 g3 g4 b0 b1 HBa HBb CPu CGe CLo CEa CDr CAb CBe CLe Fb Tc hgd heq HB
  have TW := hide (CTw.out wc)
  have FE := hide (Fc.out.below (balloc (balloc (brefl wc) (.cells #[.pointer none, .int .i64 0] 96)) (.cells #[.pointer none, .int .i64 0] 96)))
  have HBe := hide (bthen HBc.out (balloc (balloc (brefl wc) (.cells #[.pointer none, .int .i64 0] 96)) (.cells #[.pointer none, .int .i64 0] 96)))
  have HCl : Hid (w.heap.size ≤ wc.heap.size) := HBc.out.size
  go_wp2_with fail
  refine (snew_is _).mono ?_
  rintro e w6 ⟨rfl, rfl⟩
  go_wp2_with fail
  refine (snew_is _).mono ?_
  rintro e w7 ⟨rfl, rfl⟩
  rw [size_alloc]
  generalize (wc.alloc (.cells #[.pointer none, .int .i64 0] 96)).alloc (.cells #[.pointer none, .int .i64 0] 96) = WE at *
  have hOC : O < wc.heap.size := lt_of_block Fc.out
  generalize wc.heap.size = A at *
  clear Fc HBc CTw
  obtain ⟨g0, g1, g2, g3, g4⟩ := FE.out.cells
  have CPT := hide TW.out.put
  unfold pv at CPT
  clear TW
  cases m
  · simp only [Bool.false_eq_true, if_false] at CPT
    go_wp2_with fail
    refine CPT.out.mono ?_
    rintro e w8 ⟨rfl, hk8, hga, hgb⟩
    have FF := hide (FE.out.kept hk8 (by omega))
    have HB8 := hide (hk8.below' HBe.out (fun k hk => by have := HCl.out; omega) HBe.out.size)
    have GA := hide hga
    have GB := hide hgb
    obtain ⟨g0, g1, g2, g3, g4⟩ := FF.out.cells
    clear hk8 hga hgb CPT FE HBe
    go_wp2_with fail
    refine (GA.out _ (brefl _)).mono ?_
    rintro e w9 ⟨rfl, hb9⟩
    have HB9 := hide hb9
    obtain ⟨g0, g1, g2, g3, g4⟩ := (FF.out.below hb9).cells
    clear hb9
    go_wp2_with fail
    refine (GB.out _ HB9.out).mono ?_
    rintro e w10 ⟨rfl, hb10⟩
    have HB10 := hide (bthen HB9.out hb10)
    obtain ⟨g0, g1, g2, g3, g4⟩ := (FF.out.below HB10.out).cells
    clear hb10
    go_wp2_with fail
    refine (CMa.out _).mono ?_
    rintro e w11 ⟨rfl, hb11⟩
    have HB11 := hide (bthen HB10.out hb11)
    clear hb11
    go_wp2_with fail
    refine (CV.out _).mono ?_
    rintro e w12 ⟨rfl, hb12⟩
    have HB12 := hide (bthen HB11.out hb12)
    clear hb12
    go_wp2_with fail
    go_ret
    exact ⟨rfl, bthen HB8.out HB12.out⟩
  · simp only [if_true] at CPT
    go_wp2_with fail
    refine CPT.out.mono ?_
    rintro e w8 ⟨rfl, hk8, hga, hgb⟩
    have FF := hide (FE.out.kept hk8 (by omega))
    have HB8 := hide (hk8.below' HBe.out (fun k hk => by have := HCl.out; omega) HBe.out.size)
    have GA := hide hga
    have GB := hide hgb
    obtain ⟨g0, g1, g2, g3, g4⟩ := FF.out.cells
    clear hk8 hga hgb CPT FE HBe
    go_wp2_with fail
    refine (GA.out _ (brefl _)).mono ?_
    rintro e w9 ⟨rfl, hb9⟩
    have HB9 := hide hb9
    obtain ⟨g0, g1, g2, g3, g4⟩ := (FF.out.below hb9).cells
    clear hb9
    go_wp2_with fail
    refine (GB.out _ HB9.out).mono ?_
    rintro e w10 ⟨rfl, hb10⟩
    have HB10 := hide (bthen HB9.out hb10)
    obtain ⟨g0, g1, g2, g3, g4⟩ := (FF.out.below HB10.out).cells
    clear hb10
    go_wp2_with fail
    refine (CMa.out _).mono ?_
    rintro e w11 ⟨rfl, hb11⟩
    have HB11 := hide (bthen HB10.out hb11)
    clear hb11
    go_wp2_with fail
    refine (CV.out _).mono ?_
    rintro e w12 ⟨rfl, hb12⟩
    have HB12 := hide (bthen HB11.out hb12)
    clear hb12
    go_wp2_with fail
    go_ret
    exact ⟨rfl, bthen HB8.out HB12.out⟩
end Go.Proofs.Ytechocnednepiaa
