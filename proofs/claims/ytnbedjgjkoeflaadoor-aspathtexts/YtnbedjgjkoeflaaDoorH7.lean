/- The contract of the document's Of. -/
import Derived.Test.YtnbedjgjkoeflaaDoorH6
namespace Go.Proofs.YtnbedjgjkoeflaaDoor
open Go.RowKit Go.Sort

def Ru.okAt (x : List Ru.C) (i : Nat) : Bool := Is.as (x[i]!).1 && decide (0 < (x[i]!).2) && (i == 0 || (x[i]!).1 != (x[i - 1]!).1)
def Ru.good (x : List Ru.C) : Bool := (List.range x.length).all (Ru.okAt x)
def Ru.expand (x : List Ru.C) : List Int := x.flatMap fun r => List.replicate r.2.toNat r.1
def Is.of (x : List Ru.C) : List Int × Int := if Ru.good x = true then (if 16 < (Ru.expand x).length then ([], 2) else (Ru.expand x, 0)) else ([], 1)

theorem Ru.good_iff (x : List Ru.C) : Ru.good x = true ↔ ∀ i, i < x.length → Ru.okAt x i = true := by
  unfold Ru.good
  rw [List.all_eq_true]
  exact ⟨fun h i hi => h i (List.mem_range.2 hi), fun h i hi => h i (List.mem_range.1 hi)⟩
theorem Is.of_bad (x : List Ru.C) (k : Nat) (hk : k < x.length) (h : Ru.okAt x k = false) (y : List Int) (q : Int) (ho : Is.of x = (y, q)) : y = [] ∧ q = 1 := by
  have hg : Ru.good x = false := by
    cases hg : Ru.good x
    · rfl
    · rw [(Ru.good_iff x).1 hg k hk] at h; cases h
  unfold Is.of at ho
  rw [hg] at ho
  simp at ho
  exact ⟨ho.1, ho.2.symm⟩
theorem Ru.ok_zero (x : List Ru.C) (hk : 0 < x.length) : Ru.okAt x 0 = (Is.as (x[0]).1 && decide (0 < (x[0]).2)) := by
  unfold Ru.okAt
  rw [Ru.bang x 0 hk]
  simp
theorem Ru.ok_succ (x : List Ru.C) (k : Nat) (hk : k + 1 < x.length) : Ru.okAt x (k + 1) = (Is.as (x[k + 1]).1 && decide (0 < (x[k + 1]).2) && !((x[k + 1]).1 == (x[k]'(by omega)).1)) := by
  unfold Ru.okAt
  rw [Ru.bang x (k + 1) hk, show k + 1 - 1 = k by omega, Ru.bang x k (by omega)]
  simp [bne]
theorem Ru.expand_snoc (x : List Ru.C) (k : Nat) (hk : k < x.length) : Ru.expand (x.take (k + 1)) = Ru.expand (x.take k) ++ List.replicate (x[k]).2.toNat (x[k]).1 := by
  unfold Ru.expand
  rw [List.take_succ_eq_append_getElem hk, List.flatMap_append]
  simp
theorem Ru.expand_le (x : List Ru.C) (k : Nat) (_hk : k ≤ x.length) : (Ru.expand (x.take k)).length ≤ (Ru.expand x).length := by
  unfold Ru.expand
  conv => rhs; rw [← List.take_append_drop k x, List.flatMap_append, List.length_append]
  omega

theorem refAS_b (n : Int) (r : Bool) (h : Is.as n = r) (w : World) : Calls Tryd.prog 39 #[.int .i64 n] w fun e w' => e = .returned (.bool r) ∧ Below w.heap.size w w' :=
  (refAS_is n r h w).mono fun e w' ⟨h1, h2⟩ => ⟨h1, by rw [h2]; exact brefl w⟩

set_option maxHeartbeats 8000000 in
theorem refOf_is (ao : Option Addr) (ca : Nat) (x : List Ru.C) (y : List Int) (q : Int) (h : Is.of x = (y, q)) (w : World) (hA : Ru.slot w ao x) (hx : x.length ≤ 1000) :
    Calls Tryd.prog 31 #[.slice ao x.length ca] w (PathGood w y q) := by
  have HA := hide hA
  have HO := hide h
  have HBAD := hide (fun k hk hb => Is.of_bad x k hk hb y q h)
  clear hA h
  go_enter Tryd.func31, Tryd.ntmps31
  go_wp2_with fail
  go_loopw [4] (fun v wr => ∃ k : Nat, v = .int .i64 k ∧ k ≤ x.length ∧ Hid (∀ j, j < k → Ru.okAt x j = true) ∧ Below w.heap.size w wr) (fun v _ => x.length - (intOf v).toNat)
  case atStart => exact ⟨0, rfl, Nat.zero_le _, hide fun j hj => absurd hj (Nat.not_lt_zero _), brefl w⟩
  case round =>
    obtain ⟨k, rfl, hk, HALL, hbr⟩ := hrel
    have HBR := hide hbr
    clear hbr
    by_cases hkl : k < x.length
    · have hkl' : (k : Int) < (x.length : Int) := by omega
      obtain ⟨b, off, rfl, hrd⟩ := Ru.slot_at HA.out hkl
      have RD := hide hrd
      obtain ⟨e0, e1⟩ := Ru.reads_at (Ru.reads_below hrd HBR.out) k hkl
      clear hrd
      have HB := hide (HBAD.out k hkl)
      have HNX : Hid (Ru.okAt x k = true → ∀ j, j < k + 1 → Ru.okAt x j = true) := by
        intro h j hj
        rcases Nat.lt_or_ge j k with h1 | h1
        · exact HALL.out j h1
        · obtain rfl : j = k := by omega
          exact h
      rcases Nat.eq_zero_or_pos k with h0 | h0
      · subst h0
        rw [Ru.ok_zero x hkl] at HB HNX
        generalize x[0] = u at *
        obtain ⟨u0, u1⟩ := u
        simp only [Nat.zero_mul, Nat.add_zero] at e0 e1
        have r0 := fun dd os => cell_regrown e0 dd os
        have r1 := fun dd os => cell_regrown e1 dd os
        cases ha : Is.as u0
        · obtain ⟨rfl, rfl⟩ := HB.out (by rw [ha]; rfl)
          have CA := hide (fun W => refAS_b u0 false ha W)
          clear HB HNX ha
          go_wp2_with fail
          refine wp_region_quiet_below (by kernel_rfl) (by kernel_rfl) ?_
          repeat (go_big_quiet_step ((go_at_call 39; exact Calls.regrown_of (CA.out _))))
          refine wpQuiet_nil ?_
          rintro _ ⟨⟨dd, os⟩, rfl⟩
          have hb1 := below_regrown wr dd os
          generalize Sort.grow (redrawn wr dd) os = w1 at hb1
          have B1 := hide (bthen HBR.out hb1)
          clear hb1 r0 r1 e0 e1
          go_wp2_with fail
          exact bodyPost_ret (v := .tuple #[.slice none 0 0, .int .i64 1]) (by simp [results, Tryd.results31, go_sem]) rfl (path_none _ _ B1.out)
        · have CA := hide (fun W => refAS_b u0 true ha W)
          by_cases h1 : 0 < u1
          · have hd1 : decide (u1 ≤ 0) = false := decide_eq_false (by omega)
            have HNX := hide (HNX.out (by rw [ha, Bool.true_and]; exact decide_eq_true h1))
            clear HB ha h1
            go_wp2_with fail
            refine wp_region_quiet_below (by kernel_rfl) (by kernel_rfl) ?_
            repeat (go_big_quiet_step ((go_at_call 39; exact Calls.regrown_of (CA.out _))))
            refine wpQuiet_nil ?_
            rintro _ ⟨⟨dd, os⟩, rfl⟩
            have hb1 := below_regrown wr dd os
            generalize Sort.grow (redrawn wr dd) os = w1 at hb1
            have B1 := hide (bthen HBR.out hb1)
            clear hb1 r0 r1 e0 e1
            go_wp2_with fail
            exact ⟨⟨0 + 1, by go_num, by omega, HNX, B1.out⟩, by simp [intOf] <;> omega⟩
          · obtain ⟨rfl, rfl⟩ := HB.out (by rw [ha, Bool.true_and]; exact decide_eq_false h1)
            have hd1 : u1 ≤ 0 := by omega
            clear HB HNX ha h1
            go_wp2_with fail
            refine wp_region_quiet_below (by kernel_rfl) (by kernel_rfl) ?_
            repeat (go_big_quiet_step ((go_at_call 39; exact Calls.regrown_of (CA.out _))))
            refine wpQuiet_nil ?_
            rintro _ ⟨⟨dd, os⟩, rfl⟩
            have hb1 := below_regrown wr dd os
            generalize Sort.grow (redrawn wr dd) os = w1 at hb1
            have B1 := hide (bthen HBR.out hb1)
            clear hb1 r0 r1 e0 e1
            go_wp2_with fail
            exact bodyPost_ret (v := .tuple #[.slice none 0 0, .int .i64 1]) (by simp [results, Tryd.results31, go_sem]) rfl (path_none _ _ B1.out)
      · obtain ⟨m, rfl⟩ : ∃ m, k = m + 1 := ⟨k - 1, by omega⟩
        have hml : m < x.length := by omega
        have hml' : (m : Int) < (x.length : Int) := by omega
        have e2 := (Ru.reads_at (Ru.reads_below RD.out HBR.out) m hml).1
        rw [Ru.ok_succ x m hkl] at HB HNX
        generalize x[m + 1] = u at *
        generalize (x[m]).1 = t at *
        obtain ⟨u0, u1⟩ := u
        have r0 := fun dd os => cell_regrown e0 dd os
        have r1 := fun dd os => cell_regrown e1 dd os
        have r2 := fun dd os => cell_regrown e2 dd os
        cases ha : Is.as u0
        · obtain ⟨rfl, rfl⟩ := HB.out (by rw [ha]; rfl)
          have CA := hide (fun W => refAS_b u0 false ha W)
          clear HB HNX ha
          go_wp2_with fail
          refine wp_region_quiet_below (by kernel_rfl) (by kernel_rfl) ?_
          repeat (go_big_quiet_step ((go_at_call 39; exact Calls.regrown_of (CA.out _))))
          refine wpQuiet_nil ?_
          rintro _ ⟨⟨dd, os⟩, rfl⟩
          have hb1 := below_regrown wr dd os
          generalize Sort.grow (redrawn wr dd) os = w1 at hb1
          have B1 := hide (bthen HBR.out hb1)
          clear hb1 r0 r1 r2 e0 e1 e2
          go_wp2_with fail
          exact bodyPost_ret (v := .tuple #[.slice none 0 0, .int .i64 1]) (by simp [results, Tryd.results31, go_sem]) rfl (path_none _ _ B1.out)
        · have CA := hide (fun W => refAS_b u0 true ha W)
          by_cases h1 : 0 < u1
          · have hd1 : decide (u1 ≤ 0) = false := decide_eq_false (by omega)
            by_cases h2 : u0 = t
            · subst h2
              obtain ⟨rfl, rfl⟩ := HB.out (by simp)
              clear HB HNX ha h1
              go_wp2_with fail
              refine wp_region_quiet_below (by kernel_rfl) (by kernel_rfl) ?_
              repeat (go_big_quiet_step ((go_at_call 39; exact Calls.regrown_of (CA.out _))))
              refine wpQuiet_nil ?_
              rintro _ ⟨⟨dd, os⟩, rfl⟩
              have hb1 := below_regrown wr dd os
              generalize Sort.grow (redrawn wr dd) os = w1 at hb1
              have B1 := hide (bthen HBR.out hb1)
              clear hb1 r0 r1 r2 e0 e1 e2
              go_wp2_with fail
              exact bodyPost_ret (v := .tuple #[.slice none 0 0, .int .i64 1]) (by simp [results, Tryd.results31, go_sem]) rfl (path_none _ _ B1.out)
            · have HNX := hide (HNX.out (by rw [ha, decide_eq_true h1]; simpa using h2))
              have hd2 : (u0 == t) = false := by simpa using h2
              clear HB ha h1 h2
              go_wp2_with fail
              refine wp_region_quiet_below (by kernel_rfl) (by kernel_rfl) ?_
              repeat (go_big_quiet_step ((go_at_call 39; exact Calls.regrown_of (CA.out _))))
              refine wpQuiet_nil ?_
              rintro _ ⟨⟨dd, os⟩, rfl⟩
              have hb1 := below_regrown wr dd os
              generalize Sort.grow (redrawn wr dd) os = w1 at hb1
              have B1 := hide (bthen HBR.out hb1)
              clear hb1 r0 r1 r2 e0 e1 e2
              go_wp2_with fail
              exact ⟨⟨m + 1 + 1, by go_num, by omega, HNX, B1.out⟩, by simp [intOf] <;> omega⟩
          · obtain ⟨rfl, rfl⟩ := HB.out (by rw [decide_eq_false h1, Bool.and_false, Bool.false_and])
            have hd1 : u1 ≤ 0 := by omega
            clear HB HNX ha h1
            go_wp2_with fail
            refine wp_region_quiet_below (by kernel_rfl) (by kernel_rfl) ?_
            repeat (go_big_quiet_step ((go_at_call 39; exact Calls.regrown_of (CA.out _))))
            refine wpQuiet_nil ?_
            rintro _ ⟨⟨dd, os⟩, rfl⟩
            have hb1 := below_regrown wr dd os
            generalize Sort.grow (redrawn wr dd) os = w1 at hb1
            have B1 := hide (bthen HBR.out hb1)
            clear hb1 r0 r1 r2 e0 e1 e2
            go_wp2_with fail
            exact bodyPost_ret (v := .tuple #[.slice none 0 0, .int .i64 1]) (by simp [results, Tryd.results31, go_sem]) rfl (path_none _ _ B1.out)
    · obtain rfl : k = x.length := by omega
      have HG : Hid ((if 16 < (Ru.expand x).length then (([], 2) : List Int × Int) else (Ru.expand x, 0)) = (y, q)) := by
        show _ = _
        have h := HO.out
        unfold Is.of at h
        rw [(Ru.good_iff x).2 fun j hj => HALL.out j hj, if_pos rfl] at h
        exact h
      clear HO HBAD HALL
      go_wp2_with fail
      go_loopw [5, 6, 7] (fun v5 v6 _ wr => ∃ (i : Nat) (o : Option Addr) (c : Nat) (p : List Int), v6 = .int .i64 i ∧ v5 = .slice o p.length c ∧ i ≤ x.length ∧ p.length ≤ 16 ∧ Hid (p = Ru.expand (x.take i)) ∧ wr.ownsRow w.heap.size 3 1 (.slice o p.length c) p.length (Is.cells p) ∧ Below w.heap.size w wr) (fun _ v6 _ _ => x.length - (intOf v6).toNat)
      case atStart => exact ⟨0, none, 0, [], rfl, rfl, Nat.zero_le _, by decide, hide rfl, World.ownsRow_nil _ _ _ _, HBR.out⟩
      case round =>
        clear HBR
        obtain ⟨i, o, c, p, rfl, rfl, hi, hp, HP, hown, hbr⟩ := hrel
        have HW := hide hown
        have HBR := hide hbr
        clear hown hbr
        by_cases hil : i < x.length
        · have hil' : (i : Int) < (x.length : Int) := by omega
          obtain ⟨b, off, rfl, hrd⟩ := Ru.slot_at HA.out hil
          have RD := hide hrd
          clear hrd
          have HS := hide (Ru.expand_snoc x i hil)
          have HLE := hide (Ru.expand_le x (i + 1) hil)
          have RI := hide (fun W (hW : Below w.heap.size w W) => Ru.reads_at (Ru.reads_below RD.out hW) i hil)
          generalize x[i] = u at *
          obtain ⟨u0, u1⟩ := u
          simp only at HS RI
          go_wp2_with fail
          go_loopw [5, 7] (fun v5 v7 wq => ∃ (k : Nat) (o : Option Addr) (c : Nat) (p' : List Int), v7 = .int .i64 k ∧ v5 = .slice o p'.length c ∧ k ≤ u1.toNat ∧ p'.length ≤ 16 ∧ Hid (p' = p ++ List.replicate k u0) ∧ wq.ownsRow w.heap.size 3 1 (.slice o p'.length c) p'.length (Is.cells p') ∧ Below w.heap.size w wq) (fun _ v7 _ => u1.toNat - (intOf v7).toNat)
          case atStart => exact ⟨0, o, c, p, rfl, rfl, Nat.zero_le _, hp, hide (by simp), HW.out, HBR.out⟩
          case round =>
            clear HW HBR
            obtain ⟨k, o, c, p', rfl, rfl, hk, hp', HP', hown, hbr⟩ := hrel
            have HW := hide hown
            have HBR := hide hbr
            clear hown hbr
            obtain ⟨e0, e1⟩ := RI.out _ HBR.out
            have hkp : k ≤ 16 := by
              have : p'.length = p.length + k := by rw [HP'.out]; simp
              omega
            by_cases hku : k < u1.toNat
            · have hku' : (k : Int) < u1 := by omega
              by_cases h16 : p'.length = 16
              · obtain ⟨rfl, rfl⟩ : y = [] ∧ q = 2 := by
                  have hg := HG.out
                  have h1 : p'.length = p.length + k := by rw [HP'.out]; simp
                  have h2 := HLE.out
                  rw [HS.out, ← HP.out, List.length_append, List.length_replicate] at h2
                  rw [if_pos (by omega)] at hg
                  simp at hg
                  exact ⟨hg.1, hg.2.symm⟩
                rw [h16]
                go_wp2_with fail
                exact bodyPost_ret (v := .tuple #[.slice none 0 0, .int .i64 2]) (by simp [results, Tryd.results31, go_sem]) rfl (path_none _ _ HBR.out)
              · have h16' : ¬ (p'.length : Int) = 16 := by omega
                go_wp2_with (at_builtin; go_must (refine append_ints (w0 := w) rfl _ _ rfl _ _ p' rfl (HW.out.alloc _) (some ⟨wr.heap.size, 0, none⟩) 1 _ [u0] rfl rfl (Is.slot_one _ _ _) (came_some _ _ _) (by omega) (balloc HBR.out _) ?_))
                intro v' w2 hnew hb2
                obtain ⟨no, nc, rfl⟩ := row_slice hnew
                have HNW := hide hnew
                have B2 := hide hb2
                clear hnew hb2 e0 e1
                go_wp2_with fail
                exact ⟨⟨k + 1, no, nc, p' ++ [u0], by go_num, by simp, by omega, by simp; omega, hide (by rw [HP'.out, List.replicate_succ', List.append_assoc]), by simpa using HNW.out, B2.out⟩, by simp [intOf] <;> omega⟩
            · have hku' : ¬ (k : Int) < u1 := by omega
              obtain rfl : k = u1.toNat := by omega
              go_wp2_with fail
              exact ⟨⟨i + 1, o, c, p', by go_num, rfl, by omega, hp', hide (by rw [HS.out, ← HP.out]; exact HP'.out), HW.out, HBR.out⟩, by simp [intOf] <;> omega⟩
        · obtain rfl : i = x.length := by omega
          obtain ⟨rfl, rfl⟩ : p = y ∧ q = 0 := by
            have hg := HG.out
            have h1 := HP.out
            rw [List.take_length] at h1
            rw [← h1, if_neg (by omega)] at hg
            simp only [Prod.mk.injEq] at hg
            exact ⟨hg.1, hg.2.symm⟩
          go_wp2_with fail
          exact bodyPost_ret (v := .tuple #[.slice o p.length c, .int .i64 0]) (by simp [results, Tryd.results31, go_sem]) rfl ⟨_, _, rfl, HW.out, HBR.out⟩
end Go.Proofs.YtnbedjgjkoeflaaDoor
