/- The contract of the document's Compare. -/
import Derived.Test.YtpkikfojiibdaaaDoorCV1
namespace Go.Proofs.YtpkikfojiibdaaaDoor.Cm
open Go.RowKit Go.Sort

set_option maxHeartbeats 4000000 in
theorem refCompare_row (ao bo : Option Addr) (ca cb : Nat) (a b : List Co.C) (w : World) (hA : Co.slot w ao a) (hB : Co.slot w bo b) (hl : a.length = b.length) (h200 : a.length ≤ 200) :
    Calls Tryd.prog 43 #[.slice ao a.length ca, .slice bo b.length cb] w fun e w' => e = .returned (.int .i64 (Co.lex a b)) ∧ Below w.heap.size w w' := by
  have HA := hide hA
  have HB := hide hB
  have HL := hide hl
  clear hA hB
  have hle : ¬ (a.length : Int) < (b.length : Int) := by omega
  have hle2 : ¬ (b.length : Int) < (a.length : Int) := by omega
  have h200b : b.length ≤ 200 := by omega
  clear hl
  go_enter Tryd.func43, Tryd.ntmps43
  go_wp2_with fail
  go_loopw [5] (fun v wr => ∃ k : Nat, v = .int .i64 k ∧ k ≤ a.length ∧ Co.lex a b = Co.lex (a.drop k) (b.drop k) ∧ Below w.heap.size w wr) (fun v _ => a.length - (intOf v).toNat)
  case atStart => exact ⟨0, rfl, Nat.zero_le _, rfl, brefl w⟩
  case round =>
    obtain ⟨k, rfl, hk, hlex, hbr⟩ := hrel
    have HX := hide hlex
    have HBR := hide hbr
    clear hlex hbr
    by_cases hka : k < a.length
    · have hkb : k < b.length := by have := HL.out; omega
      have hkA : (k : Int) < (a.length : Int) := by omega
      have hkB : (k : Int) < (b.length : Int) := by omega
      obtain ⟨b1, o1, rfl, hr1⟩ := Co.slot_at HA.out hka
      obtain ⟨b2, o2, rfl, hr2⟩ := Co.slot_at HB.out hkb
      obtain ⟨e0, e1⟩ := Co.reads_at (Co.reads_below hr1 HBR.out) k hka
      obtain ⟨f0, f1⟩ := Co.reads_at (Co.reads_below hr2 HBR.out) k hkb
      clear hr1 hr2
      have HS := hide (Co.lex_step a b k hka hkb)
      generalize a[k] = y at *
      generalize b[k] = z at *
      have hoc := Co.ord_cases y z
      obtain ⟨y0, y1⟩ := y
      obtain ⟨z0, z1⟩ := z
      have r0 := fun dd os => cell_regrown e0 dd os
      have r1 := fun dd os => cell_regrown e1 dd os
      have s0 := fun dd os => cell_regrown f0 dd os
      have s1 := fun dd os => cell_regrown f1 dd os
      rcases hoc with ⟨hbf, ho⟩ | ⟨heq, ho⟩ | ⟨hbf, ho⟩
      · rw [ho] at HS
        have HN := hide (HX.out.trans (HS.out.trans (if_pos (by decide))))
        have HF := hide hbf
        clear hbf ho HS
        go_wp2_with fail
        refine wp_region_quiet_below (by kernel_rfl) (by kernel_rfl) ?_
        repeat (go_big_quiet_step ((go_at_call 56; exact Calls.regrown_of (refBefore_is _ _ _ _ _ HF.out _))))
        refine wpQuiet_nil ?_
        rintro _ ⟨⟨dd, os⟩, rfl⟩
        have hb1 := below_regrown wr dd os
        generalize Sort.grow (redrawn wr dd) os = w1 at hb1
        have B1 := hide (bthen HBR.out hb1)
        clear hb1 r0 r1 s0 s1 e0 e1 f0 f1
        go_wp2_with fail
        go_ret
        exact ⟨ret_int HN.out.symm, B1.out⟩
      · rw [ho] at HS
        have HN := hide (HX.out.trans (HS.out.trans (if_neg (by decide))))
        have HF : Hid (Co.bef (y0, y1) (z0, z1) = false) := by show _ = _; rw [heq]; exact Co.bef_irr _
        have HF2 : Hid (Co.bef (z0, z1) (y0, y1) = false) := by show _ = _; rw [heq]; exact Co.bef_irr _
        clear heq ho HS
        go_wp2_with fail
        refine wp_region_quiet_below (by kernel_rfl) (by kernel_rfl) ?_
        repeat (go_big_quiet_step ((go_at_call 56; exact Calls.regrown_of (refBefore_is _ _ _ _ _ HF.out _))))
        refine wpQuiet_nil ?_
        rintro _ ⟨⟨dd, os⟩, rfl⟩
        have hb1 := below_regrown wr dd os
        have E0 := r0 dd os
        have E1 := r1 dd os
        have F0 := s0 dd os
        have F1 := s1 dd os
        generalize Sort.grow (redrawn wr dd) os = w1 at hb1 E0 E1 F0 F1
        have B1 := hide (bthen HBR.out hb1)
        clear hb1 r0 r1 s0 s1 e0 e1 f0 f1
        have r0 := fun dd os => cell_regrown E0 dd os
        have r1 := fun dd os => cell_regrown E1 dd os
        have s0 := fun dd os => cell_regrown F0 dd os
        have s1 := fun dd os => cell_regrown F1 dd os
        go_wp2_with fail
        refine wp_region_quiet_below (by kernel_rfl) (by kernel_rfl) ?_
        repeat (go_big_quiet_step ((go_at_call 56; exact Calls.regrown_of (refBefore_is _ _ _ _ _ HF2.out _))))
        refine wpQuiet_nil ?_
        rintro _ ⟨⟨dd2, os2⟩, rfl⟩
        have hb2 := below_regrown w1 dd2 os2
        generalize Sort.grow (redrawn w1 dd2) os2 = w2 at hb2
        have B2 := hide (bthen B1.out hb2)
        clear hb2 r0 r1 s0 s1 E0 E1 F0 F1
        go_wp2_with fail
        exact ⟨⟨k + 1, by go_num, by omega, HN.out, B2.out⟩, by simp [intOf] <;> omega⟩
      · rw [ho] at HS
        have HN := hide (HX.out.trans (HS.out.trans (if_pos (by decide))))
        have HF2 := hide hbf
        have HF : Hid (Co.bef (y0, y1) (z0, z1) = false) := by
          show _ = _
          cases h : Co.bef (y0, y1) (z0, z1)
          · rfl
          · have := Co.bef_trans h hbf; rw [Co.bef_irr] at this; cases this
        clear hbf ho HS
        go_wp2_with fail
        refine wp_region_quiet_below (by kernel_rfl) (by kernel_rfl) ?_
        repeat (go_big_quiet_step ((go_at_call 56; exact Calls.regrown_of (refBefore_is _ _ _ _ _ HF.out _))))
        refine wpQuiet_nil ?_
        rintro _ ⟨⟨dd, os⟩, rfl⟩
        have hb1 := below_regrown wr dd os
        have E0 := r0 dd os
        have E1 := r1 dd os
        have F0 := s0 dd os
        have F1 := s1 dd os
        generalize Sort.grow (redrawn wr dd) os = w1 at hb1 E0 E1 F0 F1
        have B1 := hide (bthen HBR.out hb1)
        clear hb1 r0 r1 s0 s1 e0 e1 f0 f1
        have r0 := fun dd os => cell_regrown E0 dd os
        have r1 := fun dd os => cell_regrown E1 dd os
        have s0 := fun dd os => cell_regrown F0 dd os
        have s1 := fun dd os => cell_regrown F1 dd os
        go_wp2_with fail
        refine wp_region_quiet_below (by kernel_rfl) (by kernel_rfl) ?_
        repeat (go_big_quiet_step ((go_at_call 56; exact Calls.regrown_of (refBefore_is _ _ _ _ _ HF2.out _))))
        refine wpQuiet_nil ?_
        rintro _ ⟨⟨dd2, os2⟩, rfl⟩
        have hb2 := below_regrown w1 dd2 os2
        generalize Sort.grow (redrawn w1 dd2) os2 = w2 at hb2
        have B2 := hide (bthen B1.out hb2)
        clear hb2 r0 r1 s0 s1 E0 E1 F0 F1
        go_wp2_with fail
        go_ret
        exact ⟨ret_int HN.out.symm, B2.out⟩
    · have hkA : ¬ (k : Int) < (a.length : Int) := by omega
      have he := hide (HX.out.trans (Co.lex_end a b k (by omega)))
      go_wp2_with fail
      go_ret
      exact ⟨ret_int he.out.symm, HBR.out⟩

theorem refCompare_is (ao bo : Option Addr) (ca cb : Nat) (a b : List Co.C) (x : Int) (hx : Co.compare a b = x) (w : World) (hA : Co.slot w ao a) (hB : Co.slot w bo b) (h200 : a.length ≤ 200) (_h200b : b.length ≤ 200) :
    Calls Tryd.prog 43 #[.slice ao a.length ca, .slice bo b.length cb] w fun e w' => e = .returned (.int .i64 x) ∧ Below w.heap.size w w' := by
  subst hx
  by_cases h1 : a.length < b.length
  · have e : Co.compare a b = -1 := by unfold Co.compare; rw [if_pos h1]
    rw [e]
    have hd : (a.length : Int) < (b.length : Int) := by omega
    clear hA hB e
    go_enter Tryd.func43, Tryd.ntmps43
    go_wp2_with fail
    go_ret
    exact ⟨rfl, brefl w⟩
  · by_cases h2 : b.length < a.length
    · have e : Co.compare a b = 1 := by unfold Co.compare; rw [if_neg h1, if_pos h2]
      rw [e]
      have hd : ¬ (a.length : Int) < (b.length : Int) := by omega
      have hd2 : (b.length : Int) < (a.length : Int) := by omega
      clear hA hB e
      go_enter Tryd.func43, Tryd.ntmps43
      go_wp2_with fail
      go_ret
      exact ⟨rfl, brefl w⟩
    · have e : Co.compare a b = Co.lex a b := by unfold Co.compare; rw [if_neg h1, if_neg h2]
      rw [e]
      exact refCompare_row ao bo ca cb a b w hA hB (by omega) h200
end Go.Proofs.YtpkikfojiibdaaaDoor.Cm