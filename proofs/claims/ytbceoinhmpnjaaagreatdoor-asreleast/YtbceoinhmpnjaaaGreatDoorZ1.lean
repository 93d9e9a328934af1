import Derived.Test.YtbceoinhmpnjaaaGreatDoorX1
/- The least of what meets a node: the mathematics. -/
namespace Go.Proofs.YtbceoinhmpnjaaaGreatDoor

def LeastOf (P : List Int → Prop) (L : List Int) : Prop := P L ∧ ∀ q, P q → Is.compare L q ≤ 0
theorem lex_app : ∀ (a a' b b' : List Int), a.length = a'.length → Is.lex (a ++ b) (a' ++ b') = if Is.lex a a' = 0 then Is.lex b b' else Is.lex a a'
  | [], [], b, b', _ => by simp [Is.lex]
  | [], _ :: _, _, _, h => by simp at h
  | _ :: _, [], _, _, h => by simp at h
  | x :: a, y :: a', b, b', h => by
    have ih := lex_app a a' b b' (by simpa using h)
    simp only [List.cons_append, Is.lex]
    by_cases h1 : x < y
    · simp [h1]
    · by_cases h2 : y < x
      · simp [h1, h2]
      · simp only [h1, h2, if_false]
        exact ih
theorem cmp_le (a b : List Int) : Is.compare a b ≤ 0 ↔ a.length < b.length ∨ (a.length = b.length ∧ Is.lex a b ≤ 0) := by
  unfold Is.compare
  by_cases h1 : a.length < b.length
  · simp [h1]
  · by_cases h2 : b.length < a.length
    · simp only [h1, h2, if_false, if_true]
      constructor
      · intro h; omega
      · rintro (h | ⟨h, _⟩)
        · exact h.elim
        · omega
    · simp only [h1, h2, if_false]
      constructor
      · exact fun h => .inr ⟨by omega, h⟩
      · rintro (h | ⟨_, h⟩)
        · exact h.elim
        · exact h
theorem cmp_app {a a' b b' : List Int} (h1 : Is.compare a a' ≤ 0) (h2 : Is.compare b b' ≤ 0) : Is.compare (a ++ b) (a' ++ b') ≤ 0 := by
  rw [cmp_le] at h1 h2 ⊢
  simp only [List.length_append]
  rcases h1 with h1 | ⟨h1, l1⟩
  · rcases h2 with h2 | ⟨h2, l2⟩
    · left; omega
    · left; omega
  · rcases h2 with h2 | ⟨h2, l2⟩
    · left; omega
    · right
      refine ⟨by omega, ?_⟩
      rw [lex_app a a' b b' h1]
      split
      · exact l2
      · exact l1
theorem cmp_nil (q : List Int) : Is.compare [] q ≤ 0 := by
  rw [cmp_le]
  cases q with
  | nil => right; simp [Is.lex]
  | cons x r => left; simp
theorem cmp_refl (q : List Int) : Is.compare q q ≤ 0 := by rw [(Is.compare_zero q q).2 rfl]; omega
theorem cmp_pre (a b : List Int) : Is.compare a (a ++ b) ≤ 0 := by
  have := cmp_app (cmp_refl a) (cmp_nil b)
  simpa using this
theorem least_then {P Q : List Int → Prop} {a b : List Int} (ha : LeastOf P a) (hb : LeastOf Q b) : LeastOf (fun q => ∃ x y, q = x ++ y ∧ P x ∧ Q y) (a ++ b) := by
  refine ⟨⟨a, b, rfl, ha.1, hb.1⟩, ?_⟩
  rintro q ⟨x, y, rfl, hx, hy⟩
  exact cmp_app (ha.2 x hx) (hb.2 y hy)
theorem least_iff {P Q : List Int → Prop} {a : List Int} (h : LeastOf P a) (hi : ∀ q, P q ↔ Q q) : LeastOf Q a := ⟨(hi a).1 h.1, fun q hq => h.2 q ((hi q).2 hq)⟩
theorem least_plus {P : List Int → Prop} {a : List Int} (h : LeastOf P a) : LeastOf (Plus P) a := by
  refine ⟨plus_one h.1, ?_⟩
  rintro q ⟨x, y, rfl, hx, _⟩
  exact (Is.compare_trans a x (x ++ y) (h.2 x hx) (cmp_pre x y)).1
theorem least_or {P Q : List Int → Prop} {a b : List Int} (ha : LeastOf P a) (hb : LeastOf Q b) : LeastOf (fun q => P q ∨ Q q) (if Is.compare b a < 0 then b else a) := by
  by_cases h : Is.compare b a < 0
  · rw [if_pos h]
    refine ⟨.inr hb.1, ?_⟩
    rintro q (hq | hq)
    · exact (Is.compare_trans b a q (by omega) (ha.2 q hq)).1
    · exact hb.2 q hq
  · rw [if_neg h]
    refine ⟨.inl ha.1, ?_⟩
    have h2 := Is.compare_neg b a
    rintro q (hq | hq)
    · exact ha.2 q hq
    · exact (Is.compare_trans a b q (by omega) (hb.2 q hq)).1
theorem least_num {ps : List Prt} {p : Prt} (hp : p ∈ ps) (hm : ∀ r ∈ ps, p.1 ≤ r.1) (hg : p.1 ≤ p.2.1) (d s : Bool) : LeastOf (Nd.Met (.num d s ps)) [p.1] := by
  refine ⟨by rw [Nd.Met]; exact ⟨p.1, rfl, p, hp, Int.le_refl _, hg⟩, ?_⟩
  intro q hq
  rw [Nd.Met] at hq
  obtain ⟨n, rfl, r, hr, h1, h2⟩ := hq
  have := hm r hr
  rw [cmp_le]
  right
  refine ⟨rfl, ?_⟩
  simp only [Is.lex]
  split
  · omega
  · split <;> omega
end Go.Proofs.YtbceoinhmpnjaaaGreatDoor

/- The program's least part. -/
namespace Go.Proofs.YtbceoinhmpnjaaaGreatDoor
open Go.RowKit Go.Sort

theorem lower_is (p q : Prt) (hp : -1000000 ≤ p.1 ∧ p.1 ≤ 1000000) (hq : -1000000 ≤ q.1 ∧ q.1 ≤ 1000000) (W : World) : Calls Tryz.prog 53 #[.agg #[.int .i64 p.1, .int .i64 p.2.1, .bool p.2.2], .agg #[.int .i64 q.1, .int .i64 q.2.1, .bool q.2.2]] W fun e w' => e = .returned (.int .i64 (p.1 - q.1)) ∧ Below W.heap.size W w' := by
  obtain ⟨a, a2, a3⟩ := p
  obtain ⟨c, c2, c3⟩ := q
  simp only at hp hq ⊢
  have B0 := hide (balloc (balloc (brefl W) (.cells #[.int .i64 a, .int .i64 a2, .bool a3] 84)) (.cells #[.int .i64 c, .int .i64 c2, .bool c3] 84))
  obtain ⟨h1, h2⟩ := hp
  obtain ⟨h3, h4⟩ := hq
  go_enter Tryz.func53, Tryz.ntmps53
  go_wp2_with fail
  go_ret
  exact ⟨rfl, B0.out⟩
def MinPost (ps : List Prt) (W : World) (e : Ending) (w' : World) : Prop := (∃ q : Prt, e = .returned (.agg #[.int .i64 q.1, .int .i64 q.2.1, .bool q.2.2]) ∧ Hid (q ∈ ps ∧ ∀ r ∈ ps, q.1 ≤ r.1)) ∧ Below W.heap.size W w'

set_option maxHeartbeats 8000000 in
set_option maxRecDepth 100000 in
theorem minFunc_is (ps : List Prt) (h0 : ps ≠ []) (hb : Hid (∀ p ∈ ps, 1 ≤ p.1 ∧ p.1 ≤ 65535)) (po : Option Addr) (pc : Nat) (W : World) (hn : ps.length ≤ 100000) (hp : Pa.slot W po ps) :
    Calls Tryz.prog 54 #[.slice po ps.length pc, .func (.func 53) #[] #[]] W (MinPost ps W) := by
  have hpos := List.length_pos_iff.2 h0
  have hposI : ¬ (ps.length : Int) < 1 := by omega
  obtain ⟨b, off, rfl, hrd⟩ : ∃ b off, po = some ⟨b, off, none⟩ ∧ ∀ i (h : i < ps.length), Six W b (off + i * 3) (Pa.enc ps[i]) := by
    rcases hp with h | h
    · exact absurd h h0
    · exact h
  have HRD := hide hrd
  obtain ⟨e0, e1, e2⟩ := six3_at (hrd 0 hpos)
  rw [Nat.zero_mul, Nat.add_zero] at e0 e1 e2
  have hbl := block_lt_of_cell e0
  have hbn : b ≠ W.heap.size := by simp only at hbl; omega
  have CL := hide (fun p q (hp : p ∈ ps) (hq : q ∈ ps) w => lower_is p q (by have := hb.out p hp; omega) (by have := hb.out q hq; omega) w)
  have X0 : Hid (∃ q : Prt, Hid (q ∈ ps ∧ ∀ i (h : i < ps.length), i < 1 → q.1 ≤ ps[i].1) ∧ Box3 ((W.alloc zPart).alloc (.cells #[.int .i64 ps[0].1, .int .i64 ps[0].2.1, .bool ps[0].2.2] 84)) (W.heap.size + 1) (.int .i64 q.1) (.int .i64 q.2.1) (.bool q.2.2)) := by
    refine ⟨ps[0], ⟨List.getElem_mem hpos, fun i h hi => ?_⟩, ?_⟩
    · obtain rfl : i = 0 := by omega
      exact Int.le_refl _
    · have := box3_new (W.alloc zPart) (.int .i64 ps[0].1) (.int .i64 ps[0].2.1) (.bool ps[0].2.2) 84
      rwa [size_alloc] at this
  have R0 := hide (box3_below (box3_new W (.int .i64 0) (.int .i64 0) (.bool false) 84) (balloc (brefl _) (.cells #[.int .i64 ps[0].1, .int .i64 ps[0].2.1, .bool ps[0].2.2] 84)))
  have G0 := hide (free_alloc (free_new W #[.int .i64 0, .int .i64 0, .bool false] 84) (.cells #[.int .i64 ps[0].1, .int .i64 ps[0].2.1, .bool ps[0].2.2] 84))
  have F0 := hide (free_new (W.alloc zPart) #[.int .i64 ps[0].1, .int .i64 ps[0].2.1, .bool ps[0].2.2] 84)
  rw [size_alloc] at F0
  have B0 := hide (balloc (balloc (brefl W) zPart) (.cells #[.int .i64 ps[0].1, .int .i64 ps[0].2.1, .bool ps[0].2.2] 84))
  clear hp hrd
  generalize ps[0] = p0 at *
  go_enter Tryz.func54, Tryz.ntmps54
  go_wp2_with fail
  generalize (W.alloc zPart).alloc (.cells #[.int .i64 p0.1, .int .i64 p0.2.1, .bool p0.2.2] 84) = W1 at *
  go_loopw [6] (fun v6 wr => ∃ (k : Nat) (q : Prt), v6 = .int .i64 k ∧ 1 ≤ k ∧ k ≤ ps.length ∧ Hid (q ∈ ps ∧ ∀ i (h : i < ps.length), i < k → q.1 ≤ ps[i].1) ∧ Hid (Box3 wr (W.heap.size + 1) (.int .i64 q.1) (.int .i64 q.2.1) (.bool q.2.2)) ∧ Hid (Free wr (W.heap.size + 1)) ∧ Hid (Box3 wr W.heap.size (.int .i64 0) (.int .i64 0) (.bool false)) ∧ Hid (Free wr W.heap.size) ∧ Below W.heap.size W wr) (fun v6 _ => ps.length - (intOf v6).toNat)
  case atStart =>
    obtain ⟨q, h1, h2⟩ := X0.out
    exact ⟨1, q, rfl, Nat.le_refl _, by omega, h1, h2, F0, R0, G0, B0.out⟩
  case round =>
    obtain ⟨k, q, rfl, hk1, hkl, HQ, HX, HF, HR, HG, hbr⟩ := hrel
    have BR := hide hbr
    clear hbr e0 e1 e2 X0
    by_cases hk : k < ps.length
    · have hk' : (k : Int) < (ps.length : Int) := by omega
      obtain ⟨x0, x1, x2⟩ := HX.out
      obtain ⟨e0, e1, e2⟩ := six3_at (six_below (HRD.out k hk) BR.out)
      have C1 := CL.out ps[k] q (List.getElem_mem hk) HQ.out.1
      have C1H := hide C1
      have hq1 := hb.out q HQ.out.1
      have hp1 := hb.out ps[k] (List.getElem_mem hk)
      have f0 := HF.out.2 0
      have f1 := HF.out.2 1
      have f2 := HF.out.2 2
      have r0 := fun dd os => cell_regrown x0 dd os
      have r1 := fun dd os => cell_regrown x1 dd os
      have r2 := fun dd os => cell_regrown x2 dd os
      have g0 := fun dd os => cell_regrown e0 dd os
      have g1 := fun dd os => cell_regrown e1 dd os
      have g2 := fun dd os => cell_regrown e2 dd os
      have HL : Hid (ps[k].1 < q.1 → (ps[k] ∈ ps ∧ ∀ i (h : i < ps.length), i < k + 1 → ps[k].1 ≤ ps[i].1)) := by
        intro hlt
        refine ⟨List.getElem_mem hk, fun i h hi => ?_⟩
        by_cases he : i = k
        · subst he; exact Int.le_refl _
        · have := HQ.out.2 i h (by omega); omega
      have HN : Hid (¬ ps[k].1 < q.1 → (q ∈ ps ∧ ∀ i (h : i < ps.length), i < k + 1 → q.1 ≤ ps[i].1)) := by
        intro hlt
        refine ⟨HQ.out.1, fun i h hi => ?_⟩
        by_cases he : i = k
        · subst he; omega
        · exact HQ.out.2 i h (by omega)
      clear C1 HQ
      have hbk := block_lt_of_cell e0
      generalize ps[k] = pk at *
      obtain ⟨a1, a2, a3⟩ := pk
      obtain ⟨q1, q2, q3⟩ := q
      simp only at *
      go_wp2_with fail
      refine wp_region_quiet_below (by kernel_rfl) (by kernel_rfl) ?_
      repeat (go_big_quiet_step ((go_at_call 53; exact Calls.regrown_of (C1H.out _))))
      refine wpQuiet_nil ?_
      rintro _ ⟨⟨dd, os⟩, rfl⟩
      have hb4 := below_regrown wr dd os
      generalize Sort.grow (redrawn wr dd) os = W4 at hb4
      have B4 := hide (bthen BR.out hb4)
      have X4 := hide (box3_below HX.out hb4)
      have F4 := hide (free_of HF.out hb4.size (hb4.block _ HF.out.1))
      have R4 := hide (box3_below HR.out hb4)
      have G4 := hide (free_of HG.out hb4.size (hb4.block _ HG.out.1))
      have d0 := (hb4.cell (p := ⟨b, off + k * 3, none⟩) hbk).trans e0
      have d1 := (hb4.cell (p := ⟨b, off + k * 3 + 1, none⟩) hbk).trans e1
      have d2 := (hb4.cell (p := ⟨b, off + k * 3 + 2, none⟩) hbk).trans e2
      obtain ⟨y0, y1, y2⟩ := X4.out
      have k0 := F4.out.2 0
      have k1 := F4.out.2 1
      have k2 := F4.out.2 2
      clear r0 r1 r2 g0 g1 g2 x0 x1 x2 e0 e1 e2 f0 f1 f2 hb4 C1H
      by_cases hlt : a1 < q1
      · have hlt' : a1 - q1 < 0 := by omega
        have HL2 := hide (HL.out hlt)
        have X5 := hide (put3_box X4.out (.int .i64 a1) (.int .i64 a2) (.bool a3))
        have F5 : Hid (Free (put3 W4 (W.heap.size + 1) (.int .i64 a1) (.int .i64 a2) (.bool a3)) (W.heap.size + 1)) := free_set (free_set (free_set F4.out _ _) _ _) _ _
        have R5 := hide (box3_of R4.out (put3_other W4 (W.heap.size + 1) (.int .i64 a1) (.int .i64 a2) (.bool a3) W.heap.size (by omega)))
        have G5 : Hid (Free (put3 W4 (W.heap.size + 1) (.int .i64 a1) (.int .i64 a2) (.bool a3)) W.heap.size) := free_set (free_set (free_set G4.out _ _) _ _) _ _
        have B5 : Hid (Below W.heap.size W (put3 W4 (W.heap.size + 1) (.int .i64 a1) (.int .i64 a2) (.bool a3))) := ((B4.out.setCell (p := ⟨W.heap.size + 1, 0, none⟩) (Nat.le_succ _) _).setCell (p := ⟨W.heap.size + 1, 1, none⟩) (Nat.le_succ _) _).setCell (p := ⟨W.heap.size + 1, 2, none⟩) (Nat.le_succ _) _
        go_wp2_with fail
        exact ⟨⟨k + 1, (a1, a2, a3), by go_num, by omega, by omega, HL2, X5, F5, R5, G5, B5.out⟩, by simp [intOf] <;> omega⟩
      · have hlt' : ¬ a1 - q1 < 0 := by omega
        have HN2 := hide (HN.out (by omega))
        go_wp2_with fail
        exact ⟨⟨k + 1, (q1, q2, q3), by go_num, by omega, by omega, HN2, X4, F4, R4, G4, B4.out⟩, by simp [intOf] <;> omega⟩
    · have hk' : ¬ (k : Int) < (ps.length : Int) := by omega
      obtain rfl : k = ps.length := by omega
      obtain ⟨x0, x1, x2⟩ := HX.out
      obtain ⟨z0, z1, z2⟩ := HR.out
      have f0 := HG.out.2 0
      have f1 := HG.out.2 1
      have f2 := HG.out.2 2
      obtain ⟨q1, q2, q3⟩ := q
      go_wp2_with fail
      refine bodyPost_ret (v := .agg #[.int .i64 q1, .int .i64 q2, .bool q3]) (res_p Tryz.results54 _ (put3 wr W.heap.size (.int .i64 q1) (.int .i64 q2) (.bool q3)) W.heap.size rfl (put3_box HR.out _ _ _)) rfl ⟨⟨(q1, q2, q3), rfl, HQ.out.1, fun r hr => ?_⟩, ((BR.out.setCell (p := ⟨W.heap.size, 0, none⟩) (Nat.le_refl _) _).setCell (p := ⟨W.heap.size, 1, none⟩) (Nat.le_refl _) _).setCell (p := ⟨W.heap.size, 2, none⟩) (Nat.le_refl _) _⟩
      obtain ⟨i, hi, rfl⟩ := List.getElem_of_mem hr
      exact HQ.out.2 i hi hi
end Go.Proofs.YtbceoinhmpnjaaaGreatDoor

/- The program's least of a node. -/
namespace Go.Proofs.YtbceoinhmpnjaaaGreatDoor
open Go.RowKit Go.Sort

def LeastPost (P : List Int → Prop) (N : Nat) (W : World) (e : Ending) (w' : World) : Prop := (∃ (L : List Int) (o : Option Addr) (c : Nat), e = .returned (.slice o L.length c) ∧ LeastOf P L ∧ L.length ≤ N ∧ Is.slot w' o L ∧ came o c) ∧ Below W.heap.size W w'
def LeastAt (P : List Int → Prop) (N : Nat) (w : World) (cs : List Value) : Prop := ∀ W, Below w.heap.size w W → Calls Tryz.prog 39 #[.agg cs.toArray] W (LeastPost P N W)
def LeastC (n : Nd) : Prop := Nd.size n ≤ 300 → ∀ (w : World) (cs : List Value), Pn.At w (Nd.pn n) cs → LeastAt (Nd.Met n) (Nd.size n) w cs
set_option maxRecDepth 100000 in
theorem run_from84 (x0 x1 x2 : Value) (W : World) : (Instr.field 84 (.agg #[x0, x1, x2]) 0).run Tryz.prog W = .ok x0 W := by
  simp [Instr.field, run_underlying Tryz.underlying84, part, isAgg, sizeOf, asAgg, go_sem]
theorem one_slot (W : World) (x : Int) (t : TypeId) : Is.slot (W.alloc (.cells #[.int .i64 x] t)) (some ⟨W.heap.size, 0, none⟩) [x] := .inr ⟨W.heap.size, 0, rfl, one_reads (by simp)⟩

set_option maxHeartbeats 8000000 in
set_option maxRecDepth 100000 in
theorem least_num5 (d : Nat) (dot set : Bool) (ps : List Prt) (hg : Nd.Good d (.num dot set ps)) : LeastC (.num dot set ps) := by
  intro hz w cs hA W hW
  have hg' : (dot = true ∧ set = false ∧ ps = [(1, 65535, true)]) ∨ (dot = false ∧ set = true ∧ ps ≠ [] ∧ ∀ p ∈ ps, Px.goodPair p) ∨ (dot = false ∧ set = false ∧ ∃ x, ps = [(x, x, false)] ∧ Is.as x = true) := by
    cases d <;> simpa only [Nd.Good] using hg
  have hsz : Nd.size (.num dot set ps) = 1 := by rw [Nd.size]
  rw [hsz]
  have hcase : (dot = true ∧ set = false ∧ ps = [(1, 65535, true)]) ∨ ∃ kd : Int, (kd = 0 ∨ kd = 2) ∧ Nd.pn (.num dot set ps) = .mk kd ps [] ∧ ps ≠ [] ∧ ∀ p ∈ ps, Px.goodPair p := by
    rcases hg' with h | ⟨rfl, rfl, h0, h1⟩ | ⟨rfl, rfl, x, rfl, hx⟩
    · exact .inl h
    · exact .inr ⟨2, .inr rfl, by rw [Nd.pn, if_neg (by simp), if_pos rfl], h0, h1⟩
    · exact .inr ⟨0, .inl rfl, by rw [Nd.pn, if_neg (by simp), if_neg (by simp)], by simp, fun p hp => by simp at hp; subst hp; exact ⟨hx, hx, Int.le_refl _, fun _ => rfl⟩⟩
  clear hg hg' hz hsz
  rcases hcase with ⟨rfl, rfl, rfl⟩ | ⟨kd, hk, hpn, h0, hgp⟩
  · rw [Nd.pn, if_pos rfl] at hA
    obtain ⟨po, pc, uo, uc, b, off, css, rfl, hrest⟩ := Pn.inv hA
    clear hrest hA
    have HL := hide (least_num (p := (1, 65535, true)) (ps := [(1, 65535, true)]) (by simp) (fun r hr => by simp at hr; subst hr; exact Int.le_refl _) (by decide) true false)
    have B0 := hide (balloc (balloc (brefl W) (.cells #[.int .i64 1, .slice po ([] : List Prt).length pc, .slice uo ([] : List Pn).length uc] 59)) (.cells #[.int .i64 1] 3))
    have HS := hide (one_slot (W.alloc (.cells #[.int .i64 1, .slice po ([] : List Prt).length pc, .slice uo ([] : List Pn).length uc] 59)) 1 3)
    rw [size_alloc] at HS
    go_enter Tryz.func39, Tryz.ntmps39
    go_wp2_with fail
    go_ret
    exact ⟨⟨[1], some ⟨W.heap.size + 1, 0, none⟩, 1, rfl, HL.out, Nat.le_refl _, HS.out, came_some _ _ _⟩, B0.out⟩
  · rw [hpn] at hA
    obtain ⟨po, pc, uo, uc, b, off, css, rfl, hn, hps, hrest⟩ := Pn.inv hA
    clear hrest hA hpn
    have B0 := hide (balloc (brefl W) (.cells #[.int .i64 kd, .slice po ps.length pc, .slice uo ([] : List Pn).length uc] 59))
    have CM := hide (minFunc_is ps h0 (fun p hp => by have := (Is.as_iff _).1 (hgp p hp).1; omega) po pc _ hn.1 (Pa.slot_below (Pa.slot_below hps hW) B0.out))
    have HG := hide hgp
    clear hps hn hW hgp
    rcases hk with rfl | rfl
    all_goals
      go_enter Tryz.func39, Tryz.ntmps39
      go_wp2_with fail
      refine CM.out.mono ?_
      rintro e w1 ⟨⟨q, rfl, hq⟩, hb⟩
      have B1 := hide (balloc (bthen B0.out hb) (.cells #[.int .i64 q.1] 3))
      have HS := hide (one_slot w1 q.1 3)
      have HL := hide (least_num (p := q) hq.out.1 hq.out.2 (HG.out q hq.out.1).2.2.1 dot set)
      have hfd := run_from84 (.int .i64 q.1) (.int .i64 q.2.1) (.bool q.2.2)
      clear hb CM hq
      go_wp2_with fail
      go_ret
      exact ⟨⟨[q.1], some ⟨w1.heap.size, 0, none⟩, 1, rfl, HL.out, Nat.le_refl _, HS.out, came_some _ _ _⟩, B1.out⟩

set_option maxHeartbeats 8000000 in
set_option maxRecDepth 100000 in
theorem least_st5 (k : Nat) (hk : k = 3 ∨ k = 4 ∨ k = 5) (n : Nd) (hn : LeastC n) : LeastC (.st k n) := by
  intro hz w cs hA W hW
  have hsz : Nd.size (.st k n) = Nd.size n := by rw [Nd.size]
  rw [hsz] at hz ⊢
  rw [Nd.pn] at hA
  obtain ⟨po, pc, uo, uc, b, off, css, rfl, _, _, huo, hr, ha⟩ := Pn.inv hA
  have h0 : 0 < [Nd.pn n].length := by simp
  have hA0 := ha 0 h0
  have hR0 := six_below (hr 0 h0) hW
  have huo' : uo = some ⟨b, off, none⟩ := by rcases huo with h | h; cases h; exact h
  subst huo'
  obtain ⟨x0, x1, x2, hcs⟩ := Pn.len hA0
  rw [hcs] at hA0 hR0
  have hC := hn hz w _ hA0
  have B0 := hide (balloc (brefl W) (.cells #[.int .i64 ((k : Int) + 2), .slice po ([] : List Prt).length pc, .slice (some ⟨b, off, none⟩) [Nd.pn n].length uc] 59))
  have CE := hide (hC _ (bthen hW B0.out))
  rw [Nat.zero_mul, Nat.add_zero] at hR0
  obtain ⟨e0, e1, e2⟩ := six3_at hR0
  have hbl := block_lt_of_cell e0
  have hbn : b ≠ W.heap.size := by simp only at hbl; omega
  clear hA hr ha huo hcs hn hR0 hA0 hW hC hsz
  rcases hk with rfl | rfl | rfl
  · have HL : Hid (LeastOf (Nd.Met (.st 3 n)) []) := by
      refine ⟨?_, fun q _ => cmp_nil q⟩
      rw [Nd.Met, if_neg (by decide), if_pos rfl]
      exact .nil
    clear CE
    go_enter Tryz.func39, Tryz.ntmps39
    go_wp2_with fail
    go_ret
    exact ⟨⟨[], none, 0, rfl, HL.out, Nat.zero_le _, .inl rfl, ⟨fun _ => rfl, fun ad h => by cases h⟩⟩, B0.out⟩
  · go_enter Tryz.func39, Tryz.ntmps39
    go_wp2_with fail
    refine CE.out.mono ?_
    rintro e w1 ⟨⟨L, o, c, rfl, hL, hN, hS, hc⟩, hb⟩
    have HL : Hid (LeastOf (Nd.Met (.st 4 n)) L) := least_iff (least_plus hL) fun q => by rw [Nd.Met, if_neg (by decide), if_neg (by decide)]
    have HS := hide hS
    have HC := hide hc
    have B1 := hide (bthen B0.out hb)
    clear hb CE hL hS hc
    go_wp2_with fail
    go_ret
    exact ⟨⟨L, o, c, rfl, HL.out, hN, HS.out, HC.out⟩, B1.out⟩
  · have HL : Hid (LeastOf (Nd.Met (.st 5 n)) []) := by
      refine ⟨?_, fun q _ => cmp_nil q⟩
      rw [Nd.Met, if_pos rfl]
      exact .inl rfl
    clear CE
    go_enter Tryz.func39, Tryz.ntmps39
    go_wp2_with fail
    go_ret
    exact ⟨⟨[], none, 0, rfl, HL.out, Nat.zero_le _, .inl rfl, ⟨fun _ => rfl, fun ad h => by cases h⟩⟩, B0.out⟩
end Go.Proofs.YtbceoinhmpnjaaaGreatDoor

