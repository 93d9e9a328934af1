/- The law AspathRuns, over the contracts of the program's functions. -/
import Derived.Test.YtnbedjgjkoeflaaDoorJ1
namespace Go.Proofs.YtnbedjgjkoeflaaDoor
open Go.RowKit Go.Sort

theorem Is.of_len (x : List Ru.C) (y : List Int) (q : Int) (h : Is.of x = (y, q)) : y.length ≤ 16 := by
  unfold Is.of at h
  split at h
  · split at h
    · simp at h; rw [h.1]; decide
    · simp only [Prod.mk.injEq] at h
      rw [← h.1]
      omega
  · simp at h; rw [h.1]; decide

set_option maxHeartbeats 4000000 in
theorem runs_long {T : World → Prop} (K : Kit T) (ao bo : Option Addr) (ca cb na nb : Nat) (w : World) (hT : T w) (h : 300 < na ∨ (na ≤ 300 ∧ 300 < nb)) :
    Calls Tryd.prog 6 #[.slice ao na ca, .slice bo nb cb] w fun e w' => e = .returned (.bool true) ∧ Below w.heap.size w w' := by
  have CL := hide (lives_is K w hT)
  clear hT
  rcases h with h | ⟨h1, h⟩
  · have F1 := hide (fun W => few_is ao na ca false (by simp; omega) W)
    clear h
    go_enter Tryd.func6, Tryd.ntmps6
    go_wp2_with fail
    refine (F1.out _).mono ?_
    rintro e w1 ⟨rfl, rfl⟩
    go_wp2_with fail
    refine CL.out.mono ?_
    rintro e w2 ⟨rfl, hb2⟩
    go_wp2_with fail
    go_ret
    exact ⟨rfl, hb2⟩
  · have F1 := hide (fun W => few_is ao na ca true (by simp; omega) W)
    have h' : (300 : Int) < (nb : Int) := by omega
    clear h h1
    go_enter Tryd.func6, Tryd.ntmps6
    go_wp2_with fail
    refine (F1.out _).mono ?_
    rintro e w1 ⟨rfl, rfl⟩
    go_wp2_with fail
    refine CL.out.mono ?_
    rintro e w2 ⟨rfl, hb2⟩
    go_wp2_with fail
    go_ret
    exact ⟨rfl, hb2⟩

set_option maxHeartbeats 8000000 in
theorem runs_short {T : World → Prop} (K : Kit T) (ao bo : Option Addr) (ca cb : Nat) (l : List Int) (r : List Ru.C) (x : List Ru.C) (y : List Int) (q : Int) (w : World) (hT : T w) (hA : Is.slot w ao l) (hB : Ru.slot w bo r) (hl : l.length ≤ 300) (hr : r.length ≤ 300)
    (hx : Ru.runs l = x) (hy : Is.of r = (y, q)) :
    Calls Tryd.prog 6 #[.slice ao l.length ca, .slice bo r.length cb] w fun e w' => e = .returned (.bool true) ∧ Below w.heap.size w w' := by
  have hxl : x.length ≤ 300 := by rw [← hx]; exact Nat.le_trans (Ru.runs_len l) hl
  have hyl := Is.of_len r y q hy
  have hsh : Is.short l = x.map fun r => r.1 := by unfold Is.short; rw [hx]
  have F1 := hide (fun W => few_is ao l.length ca true (by simpa using hl) W)
  have CR := hide (fun W (hW : Below w.heap.size w W) => K.runs ao ca l x hx W (K.on hT hW) (Is.slot_below hA hW) (by omega))
  have CO := hide (fun W (hW : Below w.heap.size w W) => K.of bo cb r y q hy W (K.on hT hW) (Ru.slot_below hB hW) (by omega))
  have CO2 := hide (fun W (hW : Below w.heap.size w W) => refOf_is bo cb r y q hy W (Ru.slot_below hB hW) (by omega))
  have CR2 := hide (fun W (hW : Below w.heap.size w W) => refRuns_is ao ca l x hx W (Is.slot_below hA hW) (by omega))
  have CS := hide (fun W (hW : Below w.heap.size w W) => K.short ao ca l _ hsh W (K.on hT hW) (Is.slot_below hA hW) (by omega))
  have CL := hide (fun W (hW : Below w.heap.size w W) => lives_is K W (K.on hT hW))
  have hr' : ¬ (300 : Int) < (r.length : Int) := by omega
  clear hT hA hB hl hx hy hsh
  generalize l.length = nl at *
  generalize r.length = nr at *
  go_enter Tryd.func6, Tryd.ntmps6
  go_wp2_with fail
  refine (F1.out _).mono ?_
  rintro e w1 ⟨rfl, rfl⟩
  go_wp2_with fail
  refine (CR.out _ (brefl _)).mono ?_
  rintro e w2 ⟨o1, c1, rfl, hown, hb2⟩
  have S2 := hide (Ru.slot_own hown)
  have B2 := hide hb2
  clear hown hb2 CR
  go_wp2_with fail
  refine (CO.out _ B2.out).mono ?_
  rintro e w3 ⟨o2, c2, rfl, hown, hb3⟩
  have S3 := hide (Ru.slot_below S2.out hb3)
  have P3 := hide (Is.slot_own hown)
  have B3 := hide (bthen B2.out hb3)
  clear hown hb3 CO S2 B2
  go_wp2_with fail
  refine (CO2.out _ B3.out).mono ?_
  rintro e w4 ⟨o3, c3, rfl, hown, hb4⟩
  have S4 := hide (Ru.slot_below S3.out hb4)
  have P4 := hide (Is.slot_below P3.out hb4)
  have Q4 := hide (Is.slot_own hown)
  have B4 := hide (bthen B3.out hb4)
  clear hown hb4 CO2 S3 P3 B3
  go_wp2_with fail
  refine (CR2.out _ B4.out).mono ?_
  rintro e w5 ⟨o4, c4, rfl, hown, hb5⟩
  have S5 := hide (Ru.slot_below S4.out hb5)
  have P5 := hide (Is.slot_below P4.out hb5)
  have Q5 := hide (Is.slot_below Q4.out hb5)
  have B5 := hide (bthen B4.out hb5)
  have CM := hide (sameRuns_is o1 o4 c1 c4 x x true (by simp) w5 S5.out (Ru.slot_own hown) (by omega))
  clear hown hb5 CR2 S4 P4 Q4 B4
  go_wp2_with fail
  refine CM.out.mono ?_
  rintro e w6 ⟨rfl, hb6⟩
  have S6 := hide (Ru.slot_below S5.out hb6)
  have B6 := hide (bthen B5.out hb6)
  have CM2 := hide (same_is o2 o3 c2 c3 y y true (by simp) w6 (Is.slot_below P5.out hb6) (Is.slot_below Q5.out hb6) (by omega))
  clear hb6 CM S5 P5 Q5 B5
  go_wp2_with fail
  refine CM2.out.mono ?_
  rintro e w7 ⟨rfl, hb7⟩
  have S7 := hide (Ru.slot_below S6.out hb7)
  have B7 := hide (bthen B6.out hb7)
  clear hb7 CM2 S6 B6
  go_wp2_with fail
  refine (CS.out _ B7.out).mono ?_
  rintro e w8 ⟨o5, c5, rfl, hown, hb8⟩
  have S8 := hide (Ru.slot_below S7.out hb8)
  have X8 := hide hown
  have B8 := hide (bthen B7.out hb8)
  have hlm : (x.map fun r => r.1).length = x.length := by simp
  rw [hlm]
  clear hown hb8 CS S7 B7 hlm
  go_wp2_with fail
  go_loopw [11] (fun v wr => ∃ k : Nat, v = .int .i64 k ∧ k ≤ x.length ∧ Below w8.heap.size w8 wr) (fun v _ => x.length - (intOf v).toNat)
  case atStart => exact ⟨0, rfl, Nat.zero_le _, brefl _⟩
  case round =>
    obtain ⟨k, rfl, hk, hbr⟩ := hrel
    have HBR := hide hbr
    clear hbr
    by_cases hkl : k < x.length
    · have hkl' : (k : Int) < (x.length : Int) := by omega
      have hkm : k < (x.map fun r => r.1).length := by simpa using hkl
      obtain ⟨b1, f1, rfl, hr1⟩ := Ru.slot_at S8.out hkl
      obtain ⟨b2, f2, rfl, hr2⟩ := Is.slot_at X8.out hkm
      have e0 := (Ru.reads_at (Ru.reads_below hr1 HBR.out) k hkl).1
      have e1 := Is.reads_below hr2 HBR.out k hkm
      rw [List.getElem_map] at e1
      clear hr1 hr2
      generalize (x[k]).1 = u at *
      have r0 := fun dd os => cell_regrown e0 dd os
      have r1 := fun dd os => cell_regrown e1 dd os
      go_wp2_with fail
      refine wp_region_quiet_below (by kernel_rfl) (by kernel_rfl) ?_
      repeat (go_big_quiet_step (fail))
      refine wpQuiet_nil ?_
      rintro _ ⟨⟨dd, os⟩, rfl⟩
      have hb9 := below_regrown wr dd os
      generalize Sort.grow (redrawn wr dd) os = w9 at hb9
      have B9 := hide (bthen HBR.out hb9)
      clear hb9 r0 r1 e0 e1
      go_wp2_with fail
      exact ⟨⟨k + 1, by go_num, by omega, B9.out⟩, by simp [intOf] <;> omega⟩
    · have hkl' : ¬ (k : Int) < (x.length : Int) := by omega
      obtain rfl : k = x.length := by omega
      have B9 := hide (bthen B8.out HBR.out)
      go_wp2_with fail
      refine (CL.out _ B9.out).mono ?_
      rintro e w10 ⟨rfl, hb10⟩
      go_wp2_with fail
      go_ret
      exact ⟨rfl, bthen B9.out hb10⟩

theorem runs_law {T : World → Prop} (K : Kit T) (ao bo : Option Addr) (ca cb : Nat) (l : List Int) (r : List Ru.C) (w : World) (hT : T w) (hA : Is.slot w ao l) (hB : Ru.slot w bo r) :
    Calls Tryd.prog 6 #[.slice ao l.length ca, .slice bo r.length cb] w fun e w' => e = .returned (.bool true) ∧ Below w.heap.size w w' := by
  by_cases ha : l.length ≤ 300
  · by_cases hb : r.length ≤ 300
    · exact runs_short K ao bo ca cb l r _ _ _ w hT hA hB ha hb rfl rfl
    · exact runs_long K ao bo ca cb _ _ w hT (.inr ⟨ha, by omega⟩)
  · exact runs_long K ao bo ca cb _ _ w hT (.inl (by omega))
end Go.Proofs.YtnbedjgjkoeflaaDoor
