import Derived.Test.YtpkikfojiibdaaaGreatDoorH1
import Derived.Lib.AppendZeros
/- The contracts of slices.Grow of nothing and of slices.Concat of two lists of numbers; told. -/
namespace Go.Proofs.YtpkikfojiibdaaaGreatDoor
open Go.RowKit Go.Sort

set_option maxHeartbeats 1000000 in
theorem growI_nil (n : Nat) (hn : n ≤ 100000) (w : World) :
    Calls Tryz.prog 49 #[.slice none 0 0, .int .i64 n] w fun e w' => ∃ v, e = .returned v ∧ w'.ownsRow w.heap.size 3 1 v 0 [] ∧ Below w.heap.size w w' := by
  rcases Nat.eq_zero_or_pos n with h0 | h0
  · subst h0
    go_enter Tryz.func49, Tryz.ntmps49
    go_wp2_with fail
    go_ret
    exact ⟨_, rfl, World.ownsRow_nil _ _ _ _, brefl w⟩
  · obtain ⟨i0, hi, hz0, hz1, hz2⟩ := info_partsI
    have hr := fun ty => Lib.run_append_nil_zeros (P := Tryz.prog) w 22 3 ty 3 i0 _ .i64 .i64 Tryz.underlying22 Tryz.underlying3 hi hz0 n h0 (by omega) (by omega) (by rw [hz2]; omega)
    have hge := grownCap_ge w n 0 3
    have hle : grownCap w n 0 3 ≤ maxLen := grownCap_le_maxLen w n 0 3 (by unfold maxLen; omega)
    have hneg : ¬ (n : Int) < 0 := by omega
    have hpos : (0 : Int) < (n : Int) := by omega
    generalize grownCap w n 0 3 = C at *
    have HR := hide hr
    clear hr hi hz0 hz1 hz2
    go_enter Tryz.func49, Tryz.ntmps49
    go_wp2_with (at_builtin; go_must (refine Lib.wpList_append_run _ rfl _ _ _ _ rfl _ _ rfl rfl _ _ (HR.out _) ?_))
    go_ret
    refine ⟨_, rfl, ⟨rfl, .inr ⟨w.heap.size, C, _, rfl, Nat.le_refl _, heap_alloc_new w _, Nat.zero_le _, hle, ?_, ?_⟩⟩, (balloc (brefl w) _).drew⟩
    · have e : (#[Value.int IntKind.i64 0] : Array Value).size = 1 := rfl
      simp only [Array.size_append, size_zeroCells, e]
      omega
    · simp

set_option maxHeartbeats 2000000 in
theorem concatI_is (g2 c2 : Nat) (ao bo : Option Addr) (ca cb : Nat) (l m : List Int) (w : World) (h0 : w.cell? ⟨g2, 0, none⟩ = some (.slice ao l.length ca)) (h1 : w.cell? ⟨g2, 0 + 1, none⟩ = some (.slice bo m.length cb))
    (hA : Is.slot w ao l) (hB : Is.slot w bo m) (hCA : came ao ca) (hCB : came bo cb) (hla : l.length ≤ 10000) (hlb : m.length ≤ 10000) :
    Calls Tryz.prog 22 #[.slice (some ⟨g2, 0, none⟩) 2 c2] w fun e w' => ∃ v, e = .returned v ∧ w'.ownsRow w.heap.size 3 1 v (l.length + m.length) (Is.cells (l ++ m)) ∧ Below w.heap.size w w' := by
  have HA := hide hA
  have HB := hide hB
  have HCA := hide hCA
  have HCB := hide hCB
  have H0 := hide h0
  have H1 := hide h1
  clear hA hB hCA hCB
  have hn1 : ¬ (l.length : Int) < 0 := by omega
  have hn2 : ¬ (l.length : Int) + (m.length : Int) < 0 := by omega
  go_enter Tryz.func22, Tryz.ntmps22
  go_wp2_with fail
  go_loopw [3, 11] (fun v3 v11 wr => w = wr ∧ ((v11 = .int .i64 0 ∧ v3 = .int .i64 0) ∨ (v11 = .int .i64 1 ∧ v3 = .int .i64 l.length) ∨ (v11 = .int .i64 2 ∧ v3 = .int .i64 ((l.length + m.length : Nat) : Int)))) (fun _ v11 _ => 2 - (intOf v11).toNat)
  case atStart => exact ⟨rfl, .inl ⟨rfl, rfl⟩⟩
  case round =>
    obtain ⟨rfl, hrel⟩ := hrel
    rcases hrel with ⟨rfl, rfl⟩ | ⟨rfl, rfl⟩ | ⟨rfl, rfl⟩
    · go_wp2_with fail
      exact ⟨⟨trivial, .inr (.inl ⟨by go_num, by go_num⟩)⟩, by simp [intOf]⟩
    · go_wp2_with fail
      exact ⟨⟨trivial, .inr (.inr ⟨by go_num, by go_num⟩)⟩, by simp [intOf]⟩
    · have CG := hide (growI_nil (l.length + m.length) (by omega) w)
      go_wp2_with fail
      refine CG.out.mono ?_
      rintro e w1 ⟨v, rfl, hown, hb1⟩
      obtain ⟨go, gc, rfl⟩ := row_slice hown
      have HO := hide hown
      have B1 := hide hb1
      clear hown hb1 CG h0 h1
      go_wp2_with fail
      go_loopw [6, 27] (fun v6 v27 wq => Below w.heap.size w wq ∧ ∃ (o : Option Addr) (n c : Nat), v6 = .slice o n c ∧ ((v27 = .int .i64 0 ∧ wq.ownsRow w.heap.size 3 1 (.slice o n c) n (Is.cells []) ∧ n = 0) ∨ (v27 = .int .i64 1 ∧ wq.ownsRow w.heap.size 3 1 (.slice o n c) n (Is.cells l) ∧ n = l.length) ∨ (v27 = .int .i64 2 ∧ wq.ownsRow w.heap.size 3 1 (.slice o n c) n (Is.cells (l ++ m)) ∧ n = l.length + m.length))) (fun _ v27 _ => 2 - (intOf v27).toNat)
      case atStart => exact ⟨B1.out, go, 0, gc, rfl, .inl ⟨rfl, HO.out, rfl⟩⟩
      case round =>
        obtain ⟨hbr, o, n, c, rfl, hrel⟩ := hrel
        have HBR := hide hbr
        have k0 : wr.cell? ⟨g2, 0, none⟩ = some (.slice ao l.length ca) := (hbr.cell (p := ⟨g2, 0, none⟩) (block_lt_of_cell H0.out)).trans H0.out
        have k1 : wr.cell? ⟨g2, 0 + 1, none⟩ = some (.slice bo m.length cb) := (hbr.cell (p := ⟨g2, 0 + 1, none⟩) (block_lt_of_cell H1.out)).trans H1.out
        clear hbr HO B1
        rcases hrel with ⟨rfl, hown, hn⟩ | ⟨rfl, hown, hn⟩ | ⟨rfl, hown, hn⟩
        · have HO := hide hown
          clear hown
          subst hn
          go_wp2_with (at_builtin; go_must (refine append_ints (w0 := w) rfl _ _ rfl _ 0 [] rfl HO.out ao _ ca l rfl rfl (Is.slot_below HA.out HBR.out) HCA.out (by omega) HBR.out ?_))
          intro v' w2 hnew hb2
          obtain ⟨no, nc, rfl⟩ := row_slice hnew
          have HN := hide hnew
          have B2 := hide hb2
          clear hnew hb2
          go_wp2_with fail
          exact ⟨⟨B2.out, no, l.length, nc, rfl, .inr (.inl ⟨by go_num, HN.out, rfl⟩)⟩, by simp [intOf]⟩
        · have HO := hide hown
          clear hown
          subst hn
          go_wp2_with (at_builtin; go_must (refine append_ints (w0 := w) rfl _ _ rfl _ l.length l rfl HO.out bo _ cb m rfl rfl (Is.slot_below HB.out HBR.out) HCB.out (by omega) HBR.out ?_))
          intro v' w2 hnew hb2
          obtain ⟨no, nc, rfl⟩ := row_slice hnew
          have HN := hide hnew
          have B2 := hide hb2
          clear hnew hb2
          go_wp2_with fail
          exact ⟨⟨B2.out, no, l.length + m.length, nc, rfl, .inr (.inr ⟨by go_num, HN.out, rfl⟩)⟩, by simp [intOf]⟩
        · have HO := hide hown
          clear hown
          subst hn
          go_wp2_with fail
          go_ret
          exact ⟨_, rfl, HO.out, HBR.out⟩
theorem told_is (n was r : Int) (hr : (if n = -1 then was else n) = r) (W : World) : Calls Tryz.prog 23 #[.int .i64 n, .int .i64 was] W fun e w' => e = .returned (.int .i64 r) ∧ Below W.heap.size W w' := by
  by_cases h : n = -1
  · rw [if_pos h] at hr
    subst hr h
    go_enter Tryz.func23, Tryz.ntmps23
    go_wp2_with fail
    go_ret
    exact ⟨rfl, brefl W⟩
  · rw [if_neg h] at hr
    subst hr
    have h' : (n == -1) = false := by simpa using h
    go_enter Tryz.func23, Tryz.ntmps23
    go_wp2_with fail
    go_ret
    exact ⟨rfl, brefl W⟩
end Go.Proofs.YtpkikfojiibdaaaGreatDoor
