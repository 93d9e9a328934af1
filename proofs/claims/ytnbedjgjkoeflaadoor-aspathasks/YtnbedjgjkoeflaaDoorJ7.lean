/- The law AspathAsks, over the contracts of the program's functions. -/
import Derived.Test.YtnbedjgjkoeflaaDoorJ1
namespace Go.Proofs.YtnbedjgjkoeflaaDoor
open Go.RowKit Go.Sort

set_option maxHeartbeats 4000000 in
theorem asks_long {T : World → Prop} (K : Kit T) (ao bo : Option Addr) (ca cb na nb : Nat) (n : Int) (w : World) (hT : T w) (h : 300 < na ∨ (na ≤ 300 ∧ 300 < nb)) :
    Calls Tryd.prog 5 #[.slice ao na ca, .slice bo nb cb, .int .i64 n] w fun e w' => e = .returned (.bool true) ∧ Below w.heap.size w w' := by
  have CL := hide (lives_is K w hT)
  clear hT
  rcases h with h | ⟨h1, h⟩
  · have F1 := hide (fun W => few_is ao na ca false (by simp; omega) W)
    clear h
    go_enter Tryd.func5, Tryd.ntmps5
    go_wp2_with fail
    refine (F1.out _).mono ?_
    rintro e w1 ⟨rfl, rfl⟩
    go_wp2_with fail
    refine CL.out.mono ?_
    rintro e w2 ⟨rfl, hb2⟩
    go_wp2_with fail
    go_ret
    exact ⟨rfl, hb2⟩
  · have F1 := hide (fun W => few_is ao na ca true (by simp; omega) W)
    have F2 := hide (fun W => few_is bo nb cb false (by simp; omega) W)
    clear h h1
    go_enter Tryd.func5, Tryd.ntmps5
    go_wp2_with fail
    refine (F1.out _).mono ?_
    rintro e w1 ⟨rfl, rfl⟩
    go_wp2_with fail
    refine (F2.out _).mono ?_
    rintro e w1 ⟨rfl, rfl⟩
    go_wp2_with fail
    refine CL.out.mono ?_
    rintro e w2 ⟨rfl, hb2⟩
    go_wp2_with fail
    go_ret
    exact ⟨rfl, hb2⟩

theorem Is.slot_drop {w : World} {b off : Nat} {l : List Int} (h : Is.reads w b off l) (k : Nat) : Is.slot w (some ⟨b, off + k, none⟩) (l.drop k) := by
  refine .inr ⟨b, off + k, rfl, fun j hj => ?_⟩
  rw [List.length_drop] at hj
  rw [List.getElem_drop, Nat.add_assoc]
  exact h (k + j) (by omega)

set_option maxHeartbeats 8000000 in
theorem asks_short {T : World → Prop} (K : Kit T) (ao bo : Option Addr) (ca cb : Nat) (l q : List Int) (n : Int) (ha hlo htl : Bool) (f og x : Int) (w : World) (hT : T w) (hA : Is.slot w ao l) (hB : Is.slot w bo q) (cA : came ao ca) (hca : l.length ≤ ca) (hcm : ca ≤ maxLen) (hl : l.length ≤ 300) (hq : q.length ≤ 300)
    (e1 : l.contains n = ha) (e2 : Is.first l = f) (e3 : Is.origin l = og) (e4 : Is.loops l = hlo) (e5 : Is.compare l q = x) (e6 : Is.tail l q = htl) :
    Calls Tryd.prog 5 #[.slice ao l.length ca, .slice bo q.length cb, .int .i64 n] w fun e w' => e = .returned (.bool true) ∧ Below w.heap.size w w' := by
  have F1 := hide (fun W => few_is ao l.length ca true (by simpa using hl) W)
  have F2 := hide (fun W => few_is bo q.length cb true (by simpa using hq) W)
  have C1 := hide (fun W (hW : Below w.heap.size w W) => K.has ao ca l n ha e1 W (K.on hT hW) (Is.slot_below hA hW) (by omega))
  have C2 := hide (fun W (hW : Below w.heap.size w W) => refHas_is ao ca l n ha e1 W (Is.slot_below hA hW) (by omega))
  have C3 := hide (fun W (hW : Below w.heap.size w W) => K.first ao ca l f e2 W (K.on hT hW) (Is.slot_below hA hW) (by omega))
  have C4 := hide (fun W (hW : Below w.heap.size w W) => K.origin ao ca l og e3 W (K.on hT hW) (Is.slot_below hA hW) (by omega))
  have C5 := hide (fun W (hW : Below w.heap.size w W) => K.loops ao ca l hlo e4 W (K.on hT hW) (Is.slot_below hA hW) (by omega))
  have C6 := hide (fun W (hW : Below w.heap.size w W) => refLoops_is ao ca l hlo e4 W (Is.slot_below hA hW) (by omega))
  have C7 := hide (fun W (hW : Below w.heap.size w W) => K.compare ao bo ca cb l q x e5 W (K.on hT hW) (Is.slot_below hA hW) (Is.slot_below hB hW) (by omega) (by omega))
  have C8 := hide (fun W (hW : Below w.heap.size w W) => refCompare_is ao bo ca cb l q x e5 W (Is.slot_below hA hW) (Is.slot_below hB hW) (by omega))
  have C9 := hide (fun W (hW : Below w.heap.size w W) => K.tail ao bo ca cb l q htl e6 W (K.on hT hW) (Is.slot_below hA hW) (Is.slot_below hB hW) cA (by omega) (by omega))
  have CL := hide (fun W (hW : Below w.heap.size w W) => lives_is K W (K.on hT hW))
  have HA := hide hA
  have HB := hide (fun W (hW : Below w.heap.size w W) => Is.slot_below hB hW)
  have cA := hide cA
  clear hT hB hA e1 e4 e5
  go_enter Tryd.func5, Tryd.ntmps5
  go_wp2_with fail
  refine (F1.out _).mono ?_
  rintro e w1 ⟨rfl, rfl⟩
  go_wp2_with fail
  refine (F2.out _).mono ?_
  rintro e w1 ⟨rfl, rfl⟩
  rcases Nat.eq_zero_or_pos l.length with hl0 | hl0
  · obtain rfl : l = [] := List.length_eq_zero_iff.1 hl0
    obtain rfl : f = 0 := e2.symm
    obtain rfl : og = 0 := e3.symm
    have B2 := hide (brefl w1)
    clear e2 e3 hl0
    by_cases hql : q.length = 0
    · obtain rfl : q = [] := List.length_eq_zero_iff.1 hql
      obtain rfl : htl = true := e6.symm
      have CS := hide (fun o c => same_is o bo c cb [] [] true (by simp) w1 (.inl rfl) (.inl rfl) (by decide))
      clear hql e6
      cases ao with
      | none =>
        obtain rfl : ca = 0 := cA.out.1 rfl
        go_wp2_with fail
        refine (CS.out _ _).mono ?_
        rintro e w3 ⟨rfl, hb3⟩
        have B3 := hide (bthen B2.out hb3)
        clear hb3
        go_wp2_with fail
        refine (C1.out _ B3.out).mono ?_
        rintro e w4 ⟨rfl, hb⟩
        have E4 := hide (bthen B3.out hb)
        clear hb
        go_wp2_with fail
        refine (C2.out _ E4.out).mono ?_
        rintro e wz ⟨rfl, rfl⟩
        go_wp2_with fail
        refine (C3.out _ E4.out).mono ?_
        rintro e w5 ⟨rfl, hb⟩
        have E5 := hide (bthen E4.out hb)
        clear hb
        go_wp2_with fail
        refine (C4.out _ E5.out).mono ?_
        rintro e w6 ⟨rfl, hb⟩
        have E6 := hide (bthen E5.out hb)
        clear hb
        go_wp2_with fail
        refine (C5.out _ E6.out).mono ?_
        rintro e w7 ⟨rfl, hb⟩
        have E7 := hide (bthen E6.out hb)
        clear hb
        go_wp2_with fail
        refine (C6.out _ E7.out).mono ?_
        rintro e w8 ⟨rfl, hb⟩
        have E8 := hide (bthen E7.out hb)
        clear hb
        go_wp2_with fail
        refine (C7.out _ E8.out).mono ?_
        rintro e w9 ⟨rfl, hb⟩
        have E9 := hide (bthen E8.out hb)
        clear hb
        go_wp2_with fail
        refine (C8.out _ E9.out).mono ?_
        rintro e w10 ⟨rfl, hb⟩
        have E10 := hide (bthen E9.out hb)
        clear hb
        go_wp2_with fail
        refine (C9.out _ E10.out).mono ?_
        rintro e w11 ⟨rfl, hb⟩
        have E11 := hide (bthen E10.out hb)
        clear hb
        go_wp2_with fail
        refine (CL.out _ E11.out).mono ?_
        rintro e w12 ⟨rfl, hb⟩
        go_wp2_with fail
        go_ret
        exact ⟨rfl, bthen E11.out hb⟩
      | some ad =>
        go_wp2_with fail
        refine (CS.out _ _).mono ?_
        rintro e w3 ⟨rfl, hb3⟩
        have B3 := hide (bthen B2.out hb3)
        clear hb3
        go_wp2_with fail
        refine (C1.out _ B3.out).mono ?_
        rintro e w4 ⟨rfl, hb⟩
        have E4 := hide (bthen B3.out hb)
        clear hb
        go_wp2_with fail
        refine (C2.out _ E4.out).mono ?_
        rintro e wz ⟨rfl, rfl⟩
        go_wp2_with fail
        refine (C3.out _ E4.out).mono ?_
        rintro e w5 ⟨rfl, hb⟩
        have E5 := hide (bthen E4.out hb)
        clear hb
        go_wp2_with fail
        refine (C4.out _ E5.out).mono ?_
        rintro e w6 ⟨rfl, hb⟩
        have E6 := hide (bthen E5.out hb)
        clear hb
        go_wp2_with fail
        refine (C5.out _ E6.out).mono ?_
        rintro e w7 ⟨rfl, hb⟩
        have E7 := hide (bthen E6.out hb)
        clear hb
        go_wp2_with fail
        refine (C6.out _ E7.out).mono ?_
        rintro e w8 ⟨rfl, hb⟩
        have E8 := hide (bthen E7.out hb)
        clear hb
        go_wp2_with fail
        refine (C7.out _ E8.out).mono ?_
        rintro e w9 ⟨rfl, hb⟩
        have E9 := hide (bthen E8.out hb)
        clear hb
        go_wp2_with fail
        refine (C8.out _ E9.out).mono ?_
        rintro e w10 ⟨rfl, hb⟩
        have E10 := hide (bthen E9.out hb)
        clear hb
        go_wp2_with fail
        refine (C9.out _ E10.out).mono ?_
        rintro e w11 ⟨rfl, hb⟩
        have E11 := hide (bthen E10.out hb)
        clear hb
        go_wp2_with fail
        refine (CL.out _ E11.out).mono ?_
        rintro e w12 ⟨rfl, hb⟩
        go_wp2_with fail
        go_ret
        exact ⟨rfl, bthen E11.out hb⟩
    · have hql' : ¬ (q.length : Int) ≤ 0 := by omega
      obtain rfl : htl = false := by rw [← e6, Is.tail, decide_eq_false (by simp; intro e; exact hql (by rw [e]; rfl)), Bool.false_and]
      clear e6
      go_wp2_with fail
      refine (C1.out _ B2.out).mono ?_
      rintro e w4 ⟨rfl, hb⟩
      have E4 := hide (bthen B2.out hb)
      clear hb
      go_wp2_with fail
      refine (C2.out _ E4.out).mono ?_
      rintro e wz ⟨rfl, rfl⟩
      go_wp2_with fail
      refine (C3.out _ E4.out).mono ?_
      rintro e w5 ⟨rfl, hb⟩
      have E5 := hide (bthen E4.out hb)
      clear hb
      go_wp2_with fail
      refine (C4.out _ E5.out).mono ?_
      rintro e w6 ⟨rfl, hb⟩
      have E6 := hide (bthen E5.out hb)
      clear hb
      go_wp2_with fail
      refine (C5.out _ E6.out).mono ?_
      rintro e w7 ⟨rfl, hb⟩
      have E7 := hide (bthen E6.out hb)
      clear hb
      go_wp2_with fail
      refine (C6.out _ E7.out).mono ?_
      rintro e w8 ⟨rfl, hb⟩
      have E8 := hide (bthen E7.out hb)
      clear hb
      go_wp2_with fail
      refine (C7.out _ E8.out).mono ?_
      rintro e w9 ⟨rfl, hb⟩
      have E9 := hide (bthen E8.out hb)
      clear hb
      go_wp2_with fail
      refine (C8.out _ E9.out).mono ?_
      rintro e w10 ⟨rfl, hb⟩
      have E10 := hide (bthen E9.out hb)
      clear hb
      go_wp2_with fail
      refine (C9.out _ E10.out).mono ?_
      rintro e w11 ⟨rfl, hb⟩
      have E11 := hide (bthen E10.out hb)
      clear hb
      go_wp2_with fail
      refine (CL.out _ E11.out).mono ?_
      rintro e w12 ⟨rfl, hb⟩
      go_wp2_with fail
      go_ret
      exact ⟨rfl, bthen E11.out hb⟩
  · have hl0' : (0 : Int) < (l.length : Int) := by omega
    obtain ⟨b, off, rfl, hrd⟩ := Is.slot_at HA.out hl0
    have g0 := hrd 0 hl0
    have g1 := hrd (l.length - 1) (by omega)
    have HF : Hid (l[0] = f) := by
      show _ = _
      rw [← e2, Is.first, List.head?_eq_getElem?, List.getElem?_eq_getElem hl0]
      rfl
    have HG : Hid (l[l.length - 1] = og) := by
      show _ = _
      rw [← e3, Is.origin, List.getLast?_eq_getElem?, List.getElem?_eq_getElem (by omega)]
      rfl
    rw [HF.out, Nat.add_zero] at g0
    rw [HG.out] at g1
    have r0 := fun dd os => cell_regrown g0 dd os
    have r1 := fun dd os => cell_regrown g1 dd os
    have hsub : (((l.length - 1 : Nat)) : Int) = (l.length : Int) - 1 := by omega
    have RD := hide hrd
    clear hrd e2 e3 HF HG
    go_wp2_with fail
    refine wp_region_quiet_below (by kernel_rfl) (by kernel_rfl) ?_
    repeat (go_big_quiet_step (fail))
    refine wpQuiet_nil ?_
    rintro _ ⟨⟨dd, os⟩, rfl⟩
    have hb2 := below_regrown w1 dd os
    generalize Sort.grow (redrawn w1 dd) os = w2 at hb2
    have B2 := hide hb2
    clear hb2 r0 r1 g0 g1 hsub
    by_cases hce : ca = l.length ∧ q.length = 0
    · obtain ⟨rfl, hq0⟩ := hce
      obtain rfl : q = [] := List.length_eq_zero_iff.1 hq0
      have CS3 := hide (same_is (some ⟨b, off, none⟩) bo 0 cb [] [] htl (by rw [← e6]; simp [Is.tail]) w2 (.inl rfl) (.inl rfl) (by decide))
      clear e6 RD hq0 hca
      go_wp2_with fail
      refine (CS3.out).mono ?_
      rintro e w3 ⟨rfl, hb3⟩
      have B3 := hide (bthen B2.out hb3)
      clear hb3
      go_wp2_with fail
      refine (C1.out _ B3.out).mono ?_
      rintro e w4 ⟨rfl, hb⟩
      have E4 := hide (bthen B3.out hb)
      clear hb
      go_wp2_with fail
      refine (C2.out _ E4.out).mono ?_
      rintro e wz ⟨rfl, rfl⟩
      go_wp2_with fail
      refine (C3.out _ E4.out).mono ?_
      rintro e w5 ⟨rfl, hb⟩
      have E5 := hide (bthen E4.out hb)
      clear hb
      go_wp2_with fail
      refine (C4.out _ E5.out).mono ?_
      rintro e w6 ⟨rfl, hb⟩
      have E6 := hide (bthen E5.out hb)
      clear hb
      go_wp2_with fail
      refine (C5.out _ E6.out).mono ?_
      rintro e w7 ⟨rfl, hb⟩
      have E7 := hide (bthen E6.out hb)
      clear hb
      go_wp2_with fail
      refine (C6.out _ E7.out).mono ?_
      rintro e w8 ⟨rfl, hb⟩
      have E8 := hide (bthen E7.out hb)
      clear hb
      go_wp2_with fail
      refine (C7.out _ E8.out).mono ?_
      rintro e w9 ⟨rfl, hb⟩
      have E9 := hide (bthen E8.out hb)
      clear hb
      go_wp2_with fail
      refine (C8.out _ E9.out).mono ?_
      rintro e w10 ⟨rfl, hb⟩
      have E10 := hide (bthen E9.out hb)
      clear hb
      go_wp2_with fail
      refine (C9.out _ E10.out).mono ?_
      rintro e w11 ⟨rfl, hb⟩
      have E11 := hide (bthen E10.out hb)
      clear hb
      go_wp2_with fail
      refine (CL.out _ E11.out).mono ?_
      rintro e w12 ⟨rfl, hb⟩
      go_wp2_with fail
      go_ret
      exact ⟨rfl, bthen E11.out hb⟩
    · have hce' : ¬ ca = l.length - q.length := by omega
      clear hce
      by_cases hql : q.length ≤ l.length
      · have hql' : (q.length : Int) ≤ (l.length : Int) := by omega
        have CS := hide (same_is (some ⟨b, off + (l.length - q.length), none⟩) bo (ca - (l.length - q.length)) cb (l.drop (l.length - q.length)) q htl (by rw [← e6, Is.tail, decide_eq_true hql, Bool.true_and]) w2 (Is.slot_drop (Is.reads_below RD.out B2.out) _) (HB.out _ B2.out) (by rw [List.length_drop]; omega))
        rw [List.length_drop] at CS
        have CS2 : Hid (l.length ≤ q.length → Calls Tryd.prog 17 #[.slice (some ⟨b, off, none⟩) l.length ca, .slice bo q.length cb] w2 fun e w' => e = .returned (.bool htl) ∧ Below w2.heap.size w2 w') := by
          show _ → _
          intro hle
          refine same_is (some ⟨b, off, none⟩) bo ca cb l q htl ?_ w2 (Is.slot_below HA.out B2.out) (HB.out _ B2.out) (by omega)
          rw [← e6, Is.tail, decide_eq_true hql, Bool.true_and, show l.length - q.length = 0 by omega, List.drop_zero]
        clear e6 RD
        go_wp2_with fail
        · refine (CS.out).mono ?_
          rintro e w3 ⟨rfl, hb3⟩
          have B3 := hide (bthen B2.out hb3)
          clear hb3
          go_wp2_with fail
          refine (C1.out _ B3.out).mono ?_
          rintro e w4 ⟨rfl, hb⟩
          have E4 := hide (bthen B3.out hb)
          clear hb
          go_wp2_with fail
          refine (C2.out _ E4.out).mono ?_
          rintro e wz ⟨rfl, rfl⟩
          go_wp2_with fail
          refine (C3.out _ E4.out).mono ?_
          rintro e w5 ⟨rfl, hb⟩
          have E5 := hide (bthen E4.out hb)
          clear hb
          go_wp2_with fail
          refine (C4.out _ E5.out).mono ?_
          rintro e w6 ⟨rfl, hb⟩
          have E6 := hide (bthen E5.out hb)
          clear hb
          go_wp2_with fail
          refine (C5.out _ E6.out).mono ?_
          rintro e w7 ⟨rfl, hb⟩
          have E7 := hide (bthen E6.out hb)
          clear hb
          go_wp2_with fail
          refine (C6.out _ E7.out).mono ?_
          rintro e w8 ⟨rfl, hb⟩
          have E8 := hide (bthen E7.out hb)
          clear hb
          go_wp2_with fail
          refine (C7.out _ E8.out).mono ?_
          rintro e w9 ⟨rfl, hb⟩
          have E9 := hide (bthen E8.out hb)
          clear hb
          go_wp2_with fail
          refine (C8.out _ E9.out).mono ?_
          rintro e w10 ⟨rfl, hb⟩
          have E10 := hide (bthen E9.out hb)
          clear hb
          go_wp2_with fail
          refine (C9.out _ E10.out).mono ?_
          rintro e w11 ⟨rfl, hb⟩
          have E11 := hide (bthen E10.out hb)
          clear hb
          go_wp2_with fail
          refine (CL.out _ E11.out).mono ?_
          rintro e w12 ⟨rfl, hb⟩
          go_wp2_with fail
          go_ret
          exact ⟨rfl, bthen E11.out hb⟩
        · refine (CS2.out (by omega)).mono ?_
          rintro e w3 ⟨rfl, hb3⟩
          have B3 := hide (bthen B2.out hb3)
          clear hb3
          go_wp2_with fail
          refine (C1.out _ B3.out).mono ?_
          rintro e w4 ⟨rfl, hb⟩
          have E4 := hide (bthen B3.out hb)
          clear hb
          go_wp2_with fail
          refine (C2.out _ E4.out).mono ?_
          rintro e wz ⟨rfl, rfl⟩
          go_wp2_with fail
          refine (C3.out _ E4.out).mono ?_
          rintro e w5 ⟨rfl, hb⟩
          have E5 := hide (bthen E4.out hb)
          clear hb
          go_wp2_with fail
          refine (C4.out _ E5.out).mono ?_
          rintro e w6 ⟨rfl, hb⟩
          have E6 := hide (bthen E5.out hb)
          clear hb
          go_wp2_with fail
          refine (C5.out _ E6.out).mono ?_
          rintro e w7 ⟨rfl, hb⟩
          have E7 := hide (bthen E6.out hb)
          clear hb
          go_wp2_with fail
          refine (C6.out _ E7.out).mono ?_
          rintro e w8 ⟨rfl, hb⟩
          have E8 := hide (bthen E7.out hb)
          clear hb
          go_wp2_with fail
          refine (C7.out _ E8.out).mono ?_
          rintro e w9 ⟨rfl, hb⟩
          have E9 := hide (bthen E8.out hb)
          clear hb
          go_wp2_with fail
          refine (C8.out _ E9.out).mono ?_
          rintro e w10 ⟨rfl, hb⟩
          have E10 := hide (bthen E9.out hb)
          clear hb
          go_wp2_with fail
          refine (C9.out _ E10.out).mono ?_
          rintro e w11 ⟨rfl, hb⟩
          have E11 := hide (bthen E10.out hb)
          clear hb
          go_wp2_with fail
          refine (CL.out _ E11.out).mono ?_
          rintro e w12 ⟨rfl, hb⟩
          go_wp2_with fail
          go_ret
          exact ⟨rfl, bthen E11.out hb⟩
      · have hql' : ¬ (q.length : Int) ≤ (l.length : Int) := by omega
        obtain rfl : htl = false := by rw [← e6, Is.tail, decide_eq_false hql, Bool.false_and]
        clear e6
        go_wp2_with fail
        refine (C1.out _ B2.out).mono ?_
        rintro e w4 ⟨rfl, hb⟩
        have E4 := hide (bthen B2.out hb)
        clear hb
        go_wp2_with fail
        refine (C2.out _ E4.out).mono ?_
        rintro e wz ⟨rfl, rfl⟩
        go_wp2_with fail
        refine (C3.out _ E4.out).mono ?_
        rintro e w5 ⟨rfl, hb⟩
        have E5 := hide (bthen E4.out hb)
        clear hb
        go_wp2_with fail
        refine (C4.out _ E5.out).mono ?_
        rintro e w6 ⟨rfl, hb⟩
        have E6 := hide (bthen E5.out hb)
        clear hb
        go_wp2_with fail
        refine (C5.out _ E6.out).mono ?_
        rintro e w7 ⟨rfl, hb⟩
        have E7 := hide (bthen E6.out hb)
        clear hb
        go_wp2_with fail
        refine (C6.out _ E7.out).mono ?_
        rintro e w8 ⟨rfl, hb⟩
        have E8 := hide (bthen E7.out hb)
        clear hb
        go_wp2_with fail
        refine (C7.out _ E8.out).mono ?_
        rintro e w9 ⟨rfl, hb⟩
        have E9 := hide (bthen E8.out hb)
        clear hb
        go_wp2_with fail
        refine (C8.out _ E9.out).mono ?_
        rintro e w10 ⟨rfl, hb⟩
        have E10 := hide (bthen E9.out hb)
        clear hb
        go_wp2_with fail
        refine (C9.out _ E10.out).mono ?_
        rintro e w11 ⟨rfl, hb⟩
        have E11 := hide (bthen E10.out hb)
        clear hb
        go_wp2_with fail
        refine (CL.out _ E11.out).mono ?_
        rintro e w12 ⟨rfl, hb⟩
        go_wp2_with fail
        go_ret
        exact ⟨rfl, bthen E11.out hb⟩

theorem asks_law {T : World → Prop} (K : Kit T) (ao bo : Option Addr) (ca cb : Nat) (l q : List Int) (n : Int) (w : World) (hT : T w) (hA : Is.slot w ao l) (hB : Is.slot w bo q) (cA : came ao ca) (hca : l.length ≤ ca) (hcm : ca ≤ maxLen) :
    Calls Tryd.prog 5 #[.slice ao l.length ca, .slice bo q.length cb, .int .i64 n] w fun e w' => e = .returned (.bool true) ∧ Below w.heap.size w w' := by
  by_cases ha : l.length ≤ 300
  · by_cases hb : q.length ≤ 300
    · exact asks_short K ao bo ca cb l q n _ _ _ _ _ _ w hT hA hB cA hca hcm ha hb rfl rfl rfl rfl rfl rfl
    · exact asks_long K ao bo ca cb _ _ n w hT (.inr ⟨ha, by omega⟩)
  · exact asks_long K ao bo ca cb _ _ n w hT (.inl (by omega))
end Go.Proofs.YtnbedjgjkoeflaaDoor
