/- The program's Tail. -/
import Derived.Test.YtnbedjgjkoeflaaDoorK4
import Derived.Test.YtnbedjgjkoeflaaDoorM1
namespace Go.Proofs.YtnbedjgjkoeflaaDoor
open Go.RowKit Go.Sort

set_option maxHeartbeats 4000000 in
theorem equalRuns_is (ao bo : Option Addr) (ca cb : Nat) (a b : List Ru.C) (r : Bool) (hr : decide (a = b) = r) (w : World) (hA : Ru.slot w ao a) (hB : Ru.slot w bo b) (ha : a.length ≤ 1000) :
    Calls Tryd.prog 52 #[.slice ao a.length ca, .slice bo b.length cb] w fun e w' => e = .returned (.bool r) ∧ Below w.heap.size w w' := by
  by_cases hl : a.length = b.length
  · have HA := hide hA
    have HB := hide hB
    have HL := hide hl
    have HR := hide hr
    have hlz : (a.length : Int) = (b.length : Int) := by omega
    have hb : b.length ≤ 1000 := by omega
    clear hA hB hl hr
    go_enter Tryd.func52, Tryd.ntmps52
    go_wp2_with fail
    go_loopw [13] (fun v wr => ∃ k : Nat, v = .int .i64 k ∧ k ≤ a.length ∧ Hid (a.take k = b.take k) ∧ Below w.heap.size w wr) (fun v _ => a.length - (intOf v).toNat)
    case atStart => exact ⟨0, rfl, Nat.zero_le _, hide rfl, brefl w⟩
    case round =>
      obtain ⟨k, rfl, hk, HX, hbr⟩ := hrel
      have HBR := hide hbr
      clear hbr
      by_cases hka : k < a.length
      · have hkb : k < b.length := by have := HL.out; omega
        have hkA : (k : Int) < (a.length : Int) := by omega
        have hkB : (k : Int) < (b.length : Int) := by omega
        obtain ⟨b1, o1, rfl, hr1⟩ := Ru.slot_at HA.out hka
        obtain ⟨b2, o2, rfl, hr2⟩ := Ru.slot_at HB.out hkb
        obtain ⟨e0, e1⟩ := Ru.reads_at (Ru.reads_below hr1 HBR.out) k hka
        obtain ⟨f0, f1⟩ := Ru.reads_at (Ru.reads_below hr2 HBR.out) k hkb
        clear hr1 hr2
        have HN0 : Hid (a[k] ≠ b[k] → r = false) := by
          intro hne
          rw [← HR.out]
          refine decide_eq_false fun e => hne ?_
          simp only [e]
        have HN1 : Hid (a[k] = b[k] → a.take (k + 1) = b.take (k + 1)) := by
          intro he
          rw [List.take_succ_eq_append_getElem hka, List.take_succ_eq_append_getElem hkb, HX.out, he]
        generalize a[k] = y at *
        generalize b[k] = z at *
        obtain ⟨y0, y1⟩ := y
        obtain ⟨z0, z1⟩ := z
        have r0 := fun dd os => cell_regrown e0 dd os
        have r1 := fun dd os => cell_regrown e1 dd os
        have s0 := fun dd os => cell_regrown f0 dd os
        have s1 := fun dd os => cell_regrown f1 dd os
        have hq := neqA
        have hgd := guardA
        by_cases he : ((y0, y1) : Ru.C) = (z0, z1)
        · have HN := hide (HN1.out he)
          obtain ⟨rfl, rfl⟩ : y0 = z0 ∧ y1 = z1 := by simpa using he
          clear he HN0 HN1
          go_wp2_with fail
          refine wp_region_quiet_below (by kernel_rfl) (by kernel_rfl) ?_
          repeat (go_big_quiet_step (fail))
          refine wpQuiet_nil ?_
          rintro _ ⟨⟨dd, os⟩, rfl⟩
          have hb1 := below_regrown wr dd os
          generalize Sort.grow (redrawn wr dd) os = w1 at hb1
          have B1 := hide (bthen HBR.out hb1)
          clear hb1 r0 r1 s0 s1 e0 e1 f0 f1
          go_wp2_with fail
          exact ⟨⟨k + 1, by go_num, by omega, HN, B1.out⟩, by simp [intOf] <;> omega⟩
        · have HN := hide (HN0.out he)
          have hbb : (y0 == z0 && y1 == z1) = false := by
            rw [← Bool.not_eq_true, Bool.and_eq_true, beq_iff_eq, beq_iff_eq]
            exact fun h => he (by rw [h.1, h.2])
          clear he HN0 HN1
          go_wp2_with fail
          refine wp_region_quiet_below (by kernel_rfl) (by kernel_rfl) ?_
          repeat (go_big_quiet_step (fail))
          refine wpQuiet_nil ?_
          rintro _ ⟨⟨dd, os⟩, rfl⟩
          have hb1 := below_regrown wr dd os
          generalize Sort.grow (redrawn wr dd) os = w1 at hb1
          have B1 := hide (bthen HBR.out hb1)
          clear hb1 r0 r1 s0 s1 e0 e1 f0 f1
          go_wp2_with fail
          go_ret
          exact ⟨ret_bool HN.out.symm, B1.out⟩
      · obtain rfl : k = a.length := by omega
        have HN : Hid (r = true) := by
          show _ = _
          rw [← HR.out]
          have h1 := HX.out
          have h2 := HL.out
          rw [List.take_length, h2, List.take_length] at h1
          exact decide_eq_true h1
        go_wp2_with fail
        go_ret
        exact ⟨ret_bool HN.out.symm, HBR.out⟩
  · obtain rfl : r = false := by
      rw [← hr]
      exact decide_eq_false fun e => hl (by rw [e])
    have hlz : ¬ (a.length : Int) = (b.length : Int) := by omega
    go_enter Tryd.func52, Tryd.ntmps52
    go_wp2_with fail
    go_ret
    exact ⟨rfl, brefl w⟩

/-- The end of a row of the call's own, its first run cut short. -/
theorem run_at {w w0 : World} {o : Option Addr} {c : Nat} (I : List Ru.C) (r0 r1 : Int) (R : List Ru.C) (hown : w.ownsRow w0.heap.size 42 2 (.slice o (I ++ (r0, r1) :: R).length c) (I ++ (r0, r1) :: R).length (Ru.cells (I ++ (r0, r1) :: R))) (hb : Below w0.heap.size w0 w) :
    ∃ g, o = some ⟨g, 0, none⟩ ∧ w0.heap.size ≤ g ∧ g < w.heap.size ∧ w.cell? ⟨g, I.length * 2 + 1, none⟩ = some (.int .i64 r1) ∧ w.frozen? ⟨g, I.length * 2 + 1, none⟩ = false ∧
      ∀ m : Int, Ru.slot (w.setCell ⟨g, I.length * 2 + 1, none⟩ (.int .i64 m)) (some ⟨g, I.length * 2, none⟩) ((r0, m) :: R) ∧ Below w0.heap.size w0 (w.setCell ⟨g, I.length * 2 + 1, none⟩ (.int .i64 m)) := by
  have hlen : (I ++ (r0, r1) :: R).length = I.length + R.length + 1 := by simp; omega
  obtain ⟨g, rfl, hge, hgl⟩ : ∃ g, o = some ⟨g, 0, none⟩ ∧ w0.heap.size ≤ g ∧ g < w.heap.size := by
    rcases hown.2 with ⟨_, h⟩ | ⟨g, cap', cur, hv, hge, hg, _⟩
    · rw [hlen] at h; omega
    · simp only [Value.slice.injEq] at hv
      exact ⟨g, hv.1, hge, heap_lt hg⟩
  have hcells : ∀ m : Int, (Ru.cells (I ++ (r0, r1) :: R)).set (I.length * 2 + 1) (.int .i64 m) = Ru.cells (I ++ (r0, m) :: R) := by
    intro m
    rw [Ru.cells_app, Ru.cells_app, List.set_append_right _ _ (by rw [Ru.cells_length]; omega), Ru.cells_length, show I.length * 2 + 1 - I.length * 2 = 1 by omega]
    rfl
  refine ⟨g, rfl, hge, hgl, ?_, hown.frozenAt _, fun m => ⟨?_, bset hb (p := ⟨g, I.length * 2 + 1, none⟩) hge _⟩⟩
  · rw [hown.cellAt _ (by omega), Ru.cells_app, List.getElem?_append_right (by rw [Ru.cells_length]; omega), Ru.cells_length, show I.length * 2 + 1 - I.length * 2 = 1 by omega]
    rfl
  · have h := (hown.stored (I.length * 2 + 1) (.int .i64 m)).1
    rw [hcells] at h
    refine .inr ⟨g, I.length * 2, rfl, fun j u hu => ?_⟩
    have hj : j < (R.length + 1) * 2 := by
      have := (List.getElem?_eq_some_iff.1 hu).1
      rw [Ru.cells_length] at this
      simpa using this
    rw [h.cellAt (I.length * 2 + j) (by omega), Ru.cells_app, List.getElem?_append_right (by rw [Ru.cells_length]; omega), Ru.cells_length, show I.length * 2 + j - I.length * 2 = j by omega]
    exact hu
theorem own_cap {w : World} {B e size n cap : Nat} {ao : Option Addr} {xs : List Value} (h : w.ownsRow B e size (.slice ao n cap) n xs) : n ≤ cap := by
  rcases h.2 with ⟨hv, h0⟩ | ⟨g, cap', cur, hv, _, _, hn, _⟩
  · omega
  · simp only [Value.slice.injEq] at hv
    omega
set_option maxHeartbeats 4000000 in
theorem tail_is (ao bo : Option Addr) (ca cb : Nat) (a b : List Int) (r : Bool) (hr : Is.tail a b = r) (W : World) (hA : Is.slot W ao a) (hB : Is.slot W bo b) (ha : a.length ≤ 320) (hb : b.length ≤ 320) :
    Calls Tryd.prog 28 #[.slice ao a.length ca, .slice bo b.length cb] W fun e w' => e = .returned (.bool r) ∧ Below W.heap.size W w' := by
  obtain ⟨x, hx⟩ : ∃ x, Ru.runs a = x := ⟨_, rfl⟩
  obtain ⟨y, hy⟩ : ∃ y, Ru.runs b = y := ⟨_, rfl⟩
  have hxl : x.length ≤ 320 := by rw [← hx]; exact Nat.le_trans (Ru.runs_len a) ha
  have hyl : y.length ≤ 320 := by rw [← hy]; exact Nat.le_trans (Ru.runs_len b) hb
  have C1 := hide (runs_is ao ca a x hx W hA (by omega))
  have C2 := hide (fun w1 (h1 : Below W.heap.size W w1) => runs_is bo cb b y hy w1 (Is.slot_below hB h1) (by omega))
  by_cases hlong : x.length < y.length
  · obtain rfl : r = false := by rw [← hr]; exact tail_long a b (by rw [hx, hy]; exact hlong)
    have hlong' : (x.length : Int) < (y.length : Int) := by omega
    clear hx hy hr hA hB
    go_enter Tryd.func28, Tryd.ntmps28
    go_wp2_with fail
    refine C1.out.mono ?_
    rintro e w1 ⟨o1, c1, rfl, hown1, hb1⟩
    have B1 := hide hb1
    clear hown1 hb1 C1
    go_wp2_with fail
    refine (C2.out w1 B1.out).mono ?_
    rintro e w2 ⟨o2, c2, rfl, hown2, hb2⟩
    have B2 := hide (bthen B1.out hb2)
    clear hown2 hb2 C2
    go_wp2_with fail
    go_ret
    exact ⟨rfl, B2.out⟩
  · have hlong' : ¬ (x.length : Int) < (y.length : Int) := by omega
    by_cases hy0 : y = []
    · subst hy0
      obtain rfl : r = true := by rw [← hr]; exact tail_none a b hy
      clear hx hy hr hA hB
      go_enter Tryd.func28, Tryd.ntmps28
      go_wp2_with fail
      refine C1.out.mono ?_
      rintro e w1 ⟨o1, c1, rfl, hown1, hb1⟩
      have B1 := hide hb1
      have hcap := own_cap hown1
      have HC := hide (own_came hown1)
      clear hown1 hb1 C1
      go_wp2_with fail
      refine (C2.out w1 B1.out).mono ?_
      rintro e w2 ⟨o2, c2, rfl, hown2, hb2⟩
      have B2 := hide (bthen B1.out hb2)
      clear hown2 hb2 C2
      cases o1 with
      | none =>
        go_wp2_with fail
        all_goals
          refine (equalRuns_is _ _ _ _ [] [] true rfl _ (.inl rfl) (.inl rfl) (by decide)).mono ?_
          rintro e w3 ⟨rfl, hb3⟩
          go_wp2_with fail
          go_ret
          exact ⟨rfl, bthen B2.out hb3⟩
      | some ad =>
        obtain ⟨g, off, sp⟩ := ad
        obtain rfl : sp = none := HC.out.2 _ rfl
        go_wp2_with fail
        all_goals
          refine (equalRuns_is _ _ _ _ [] [] true rfl _ (.inl rfl) (.inl rfl) (by decide)).mono ?_
          rintro e w3 ⟨rfl, hb3⟩
          go_wp2_with fail
          go_ret
          exact ⟨rfl, bthen B2.out hb3⟩
    · obtain ⟨e0, e1, E, hye⟩ : ∃ e0 e1 E, y = (e0, e1) :: E := by
        cases y with
        | nil => exact absurd rfl hy0
        | cons e E => exact ⟨e.1, e.2, E, rfl⟩
      obtain ⟨I, r0, r1, R, hxe, hRE⟩ : ∃ I r0 r1 R, x = I ++ (r0, r1) :: R ∧ R.length = E.length := by
        have h1 := List.take_append_drop (x.length - y.length) x
        have h2 : y.length = E.length + 1 := by rw [hye]; simp
        cases hd : x.drop (x.length - y.length) with
        | nil =>
          have := congrArg List.length hd
          simp at this hlong
          omega
        | cons c R =>
          refine ⟨x.take (x.length - y.length), c.1, c.2, R, by rw [← hd]; exact h1.symm, ?_⟩
          have := congrArg List.length hd
          simp at this hlong
          omega
      have HR : Hid (decide ((r0, min r1 e1) :: R = (e0, e1) :: E) = r) := by
        show _ = _
        rw [← hr]
        exact (tail_runs a b I (r0, r1) (e0, e1) R E (hx.trans hxe) (hy.trans hye) hRE).symm
      have hxn : x.length = I.length + R.length + 1 := by rw [hxe]; simp; omega
      have hyn : y.length = R.length + 1 := by rw [hye]; simp; omega
      have HXE := hide hxe
      have HYE := hide hye
      have HEL : Hid (E.length = R.length) := hRE.symm
      clear hx hy hr hA hB hlong hlong' hxe hye hRE hy0
      go_enter Tryd.func28, Tryd.ntmps28
      go_wp2_with fail
      refine C1.out.mono ?_
      rintro e w1 ⟨o1, c1, rfl, hown1, hb1⟩
      have hcap := own_cap hown1
      have B1 := hide hb1
      have O1 := hide hown1
      rw [hxn]
      clear hown1 hb1 C1
      go_wp2_with fail
      refine (C2.out w1 B1.out).mono ?_
      rintro e w2 ⟨o2, c2, rfl, hown2, hb2⟩
      have B2 := hide (bthen B1.out hb2)
      obtain ⟨g, rfl, hge, hgl, k1, k2, hset⟩ := run_at I r0 r1 R (by rw [← HXE.out]; exact row_below O1.out hb2) (bthen B1.out hb2)
      have HB2 := hide (Ru.slot_own hown2)
      obtain ⟨g2, off2, rfl, hr2⟩ := Ru.slot_at HB2.out (k := 0) (by omega)
      rw [HYE.out] at hr2
      have k3 := (Ru.reads_at hr2 0 (by simp)).2
      simp only [List.getElem_cons_zero, Nat.zero_mul, Nat.add_zero] at k3
      obtain ⟨hs1, hs2⟩ := hset (min r1 e1)
      have hg2 : w1.heap.size ≤ g2 := by
        rcases hown2.2 with ⟨_, h⟩ | ⟨g', cap', cur, hv, hge, _⟩
        · omega
        · simp only [Value.slice.injEq, Option.some.injEq, Addr.mk.injEq, and_true] at hv
          rw [hv.1.1]
          exact hge
      have hg1 : g < w1.heap.size := by
        rcases O1.out.2 with ⟨_, h⟩ | ⟨g', cap', cur, hv, _, hg, _⟩
        · omega
        · simp only [Value.slice.injEq, Option.some.injEq, Addr.mk.injEq, and_true] at hv
          rw [hv.1]
          exact heap_lt hg
      have S3 : Hid (Ru.slot (w2.setCell ⟨g, I.length * 2 + 1, none⟩ (.int .i64 (min r1 e1))) (some ⟨g2, off2, none⟩) ((e0, e1) :: E)) := by
        refine .inr ⟨g2, off2, rfl, fun j u hu => ?_⟩
        rw [World.cell?_setCell_other (h := by intro e; have := congrArg Addr.block e; simp at this; omega)]
        exact hr2 j u hu
      have S4 := hide hs1
      have B3 := hide hs2
      have CE := hide (fun W hW1 hW2 ca cb => equalRuns_is (some ⟨g, I.length * 2, none⟩) (some ⟨g2, off2, none⟩) ca cb ((r0, min r1 e1) :: R) ((e0, e1) :: E) r HR.out W hW1 hW2 (by simp; omega))
      have HL1 : Hid (((r0, min r1 e1) :: R).length = R.length + 1) := by show _ = _; simp
      have HL2 : Hid (((e0, e1) :: E).length = R.length + 1) := by show _ = _; rw [List.length_cons, HEL.out]
      rw [HL1.out, HL2.out] at CE
      rw [hyn]
      clear hset hr2 HB2 hs1 hs2 hown2 hb2 C2 O1 B1 B2 HR HL1 HL2 HEL HXE HYE
      rw [hxn] at hcap hxl
      rw [hyn] at hyl
      generalize hi : I.length = ni at *
      generalize hn : R.length = nr at *
      clear hi hn hxn hyn
      have hc : ¬ c1 - ni = 0 := by omega
      go_wp2_with fail
      go_region
      go_wp2_with fail
      rw [show ni + nr + 1 - ni = nr + 1 by omega]
      refine (CE.out _ (Ru.slot_below S4.out (brefl _).drew) (Ru.slot_below S3.out (brefl _).drew) _ _).mono ?_
      rintro e w3 ⟨rfl, hb3⟩
      go_wp2_with fail
      go_ret
      exact ⟨rfl, bthen B3.out.drew hb3⟩
end Go.Proofs.YtnbedjgjkoeflaaDoor
