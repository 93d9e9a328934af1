import Derived.Test.YtpkikfojiibdaaaGreatDoorP1
import Derived.Test.YtpkikfojiibdaaaGreatDoorAS1
import Derived.Test.YtpkikfojiibdaaaGreatDoorCA3
import Derived.Test.YtpkikfojiibdaaaGreatDoorL1
/- The program's Change. -/
namespace Go.Proofs.YtpkikfojiibdaaaGreatDoor.Cm
open Go.RowKit Go.Sort

/-- What is asked of those of a change. -/
theorem clo54 (a b : Int) (r : Bool) (h : Co.may (a, b) = r) (W : World) : Calls Tryz.prog 54 #[.agg #[.int .i64 a, .int .i64 b]] W fun e w' => e = .returned (.bool (!r)) ∧ Below W.heap.size W w' := by
  cases r
  all_goals
    have H := hide h
    clear h
    go_enter Tryz.func54, Tryz.ntmps54
    go_wp2_with fail
    refine (may_is _ _ _ H.out _).mono ?_
    rintro e w1 ⟨rfl, hb1⟩
    go_wp2_with fail
    go_ret
    exact ⟨rfl, bthen (balloc (brefl W) _) hb1⟩
theorem pred54 (w : World) : PredBelow Tryz.prog 54 #[] (fun x : Co.C => .agg (Co.enc x).toArray) (fun x => !Co.may x) w := fun W x hb => by
  refine Calls.mono (clo54 x.1 x.2 _ rfl W) ?_
  rintro e w1 ⟨rfl, hb1⟩
  exact ⟨rfl, hb.trans (hb1.mono hb.size)⟩
theorem containsF54_is (ao : Option Addr) (ca : Nat) (l : List Co.C) (r : Bool) (hr : (l.any fun x => !Co.may x) = r) (w : World) (hA : Co.slot w ao l) (hlen : l.length ≤ 1000000) :
    Calls Tryz.prog 56 #[.slice ao l.length ca, .func (.func 54) #[] #[]] w fun e w' => e = .returned (.bool r) ∧ Below w.heap.size w w' := by
  rcases Nat.eq_zero_or_pos l.length with h0 | h0
  · obtain rfl := List.length_eq_zero_iff.1 h0
    obtain rfl : false = r := hr
    exact (containsF_none ao ca _ w).mono fun _ _ ⟨h1, h2⟩ => ⟨h1, h2 ▸ brefl _⟩
  · obtain ⟨b, off, rfl, hrd⟩ := Co.slot_at hA h0
    have hb : b < w.heap.size := block_lt_of_cell (Co.reads_at hrd 0 h0).1
    have eg : ∀ args w, (callFunc 54 args).run Tryz.prog w = .ok (.enter 54 args) w := enters_of Tryz.func54 (by kernel_rfl) rfl
    have hcon := AnyQ.slices_ContainsFunc Tryz.hasF 2 Tryz.isAgg53 Tryz.sizeOf53 Co.enc (fun _ => rfl) (fun x => !Co.may x) 54 #[] eg b off l.length ca l w (pred54 w) (Nat.le_refl _) (by omega) hb (Co.cells_at hrd)
    refine Calls.mono (show Calls Tryz.prog 56 _ _ _ from hcon) ?_
    rintro e w' ⟨rfl, hb'⟩
    exact ⟨ret_bool (by rw [List.take_length]; exact hr), hb'⟩
/-- Communities of a change. -/
def Co.few (l : List Co.C) : Bool := decide (l.length ≤ 8) && !(l.any fun c => !Co.may c)
theorem mayComms_is (ao : Option Addr) (ca : Nat) (l : List Co.C) (r : Bool) (hr : Co.few l = r) (w : World) (hA : Co.slot w ao l) (hl : l.length ≤ 1000) :
    Calls Tryz.prog 31 #[.slice ao l.length ca] w fun e w' => e = .returned (.bool r) ∧ Below w.heap.size w w' := by
  unfold Co.few at hr
  by_cases h8 : l.length ≤ 8
  · have h8' : (l.length : Int) ≤ 8 := by omega
    rw [decide_eq_true h8, Bool.true_and] at hr
    obtain ⟨b, hb⟩ : ∃ b, (l.any fun c => !Co.may c) = b := ⟨_, rfl⟩
    have CF := hide (containsF54_is ao ca l b hb w hA (by omega))
    rw [hb] at hr
    subst hr
    clear hb hA h8 hl
    go_enter Tryz.func31, Tryz.ntmps31
    go_wp2_with fail
    refine CF.out.mono ?_
    rintro e w1 ⟨rfl, hb1⟩
    have B1 := hide hb1
    clear hb1 CF
    go_wp2_with fail
    go_ret
    exact ⟨rfl, B1.out⟩
  · have h8' : ¬ (l.length : Int) ≤ 8 := by omega
    rw [decide_eq_false h8, Bool.false_and] at hr
    subst hr
    clear hA h8 hl
    go_enter Tryz.func31, Tryz.ntmps31
    go_wp2_with fail
    go_ret
    exact ⟨rfl, brefl w⟩
end Go.Proofs.YtpkikfojiibdaaaGreatDoor.Cm
namespace Go.Proofs.YtpkikfojiibdaaaGreatDoor
open Go.RowKit Go.Sort

theorem or28_is (n : Int) (r : Bool) (hr : (decide (n = -1) || decide (0 ≤ n ∧ n ≤ 1048576)) = r) (W : World) :
    Calls Tryz.prog 27 #[.func (.func 28) #[] #[], .int .i64 n] W fun e w' => e = .returned (.bool r) ∧ Below W.heap.size W w' := by
  by_cases h : n = -1
  · rw [decide_eq_true h, Bool.true_or] at hr
    subst hr h
    go_enter Tryz.func27, Tryz.ntmps27
    go_wp2_with fail
    go_ret
    exact ⟨rfl, brefl W⟩
  · rw [decide_eq_false h, Bool.false_or] at hr
    have h' : (n == -1) = false := by simpa using h
    have CM := hide (mayPref_is n r hr W)
    clear hr h
    go_enter Tryz.func27, Tryz.ntmps27
    go_wp2_with fail
    refine CM.out.mono ?_
    rintro e w1 ⟨rfl, hb1⟩
    have B1 := hide hb1
    clear hb1 CM
    go_wp2_with fail
    go_ret
    exact ⟨rfl, B1.out⟩
theorem or29_is (n : Int) (r : Bool) (hr : (decide (n = -1) || decide (0 ≤ n ∧ n ≤ 1048576)) = r) (W : World) :
    Calls Tryz.prog 27 #[.func (.func 29) #[] #[], .int .i64 n] W fun e w' => e = .returned (.bool r) ∧ Below W.heap.size W w' := by
  by_cases h : n = -1
  · rw [decide_eq_true h, Bool.true_or] at hr
    subst hr h
    go_enter Tryz.func27, Tryz.ntmps27
    go_wp2_with fail
    go_ret
    exact ⟨rfl, brefl W⟩
  · rw [decide_eq_false h, Bool.false_or] at hr
    have h' : (n == -1) = false := by simpa using h
    have CM := hide (mayMed_is n r hr W)
    clear hr h
    go_enter Tryz.func27, Tryz.ntmps27
    go_wp2_with fail
    refine CM.out.mono ?_
    rintro e w1 ⟨rfl, hb1⟩
    have B1 := hide hb1
    clear hb1 CM
    go_wp2_with fail
    go_ret
    exact ⟨rfl, B1.out⟩
theorem or30_is (n : Int) (r : Bool) (hr : (decide (n = -1) || decide (0 ≤ n ∧ n ≤ 2)) = r) (W : World) :
    Calls Tryz.prog 27 #[.func (.func 30) #[] #[], .int .i64 n] W fun e w' => e = .returned (.bool r) ∧ Below W.heap.size W w' := by
  by_cases h : n = -1
  · rw [decide_eq_true h, Bool.true_or] at hr
    subst hr h
    go_enter Tryz.func27, Tryz.ntmps27
    go_wp2_with fail
    go_ret
    exact ⟨rfl, brefl W⟩
  · rw [decide_eq_false h, Bool.false_or] at hr
    have h' : (n == -1) = false := by simpa using h
    have CM := hide (mayOrigin_is n r hr W)
    clear hr h
    go_enter Tryz.func27, Tryz.ntmps27
    go_wp2_with fail
    refine CM.out.mono ?_
    rintro e w1 ⟨rfl, hb1⟩
    have B1 := hide hb1
    clear hb1 CM
    go_wp2_with fail
    go_ret
    exact ⟨rfl, B1.out⟩
theorem ok_chain (x0 x1 x2 : Int) (ad de : List Cm.Co.C) (cl : Bool) (pp : List Int) : St.ok ⟨x0, x1, x2, ad, de, cl, pp⟩ = ((decide (x0 = -1) || decide (0 ≤ x0 ∧ x0 ≤ 1048576)) && ((decide (x1 = -1) || decide (0 ≤ x1 ∧ x1 ≤ 1048576)) && ((decide (x2 = -1) || decide (0 ≤ x2 ∧ x2 ≤ 2)) && (Cm.Co.few ad && (Cm.Co.few de && Is.may pp))))) := by
  unfold St.ok Cm.Co.few
  simp only
  rw [Bool.eq_iff_iff]
  simp only [Bool.and_eq_true, Bool.or_eq_true, decide_eq_true_eq]
  constructor
  · rintro ⟨h, h4, h5, h6, h7, h8⟩
    exact ⟨by omega, by omega, by omega, ⟨h4, h6⟩, ⟨h5, h7⟩, h8⟩
  · rintro ⟨h1, h2, h3, ⟨h4, h6⟩, ⟨h5, h7⟩, h8⟩
    exact ⟨by omega, h4, h5, h6, h7, h8⟩
set_option maxHeartbeats 4000000 in
set_option maxRecDepth 100000 in
theorem change_is (s : St) (ao dl pr : Option Addr) (ca cd cr : Nat) (r : Bool) (hr : St.ok s = r) (w : World) (hS : St.lies w s ao dl pr) (h1 : s.add.length ≤ 100) (h2 : s.del.length ≤ 100) (h3 : s.pre.length ≤ 100) :
    Calls Tryz.prog 11 #[.agg #[.int .i64 s.pf, .int .i64 s.md, .int .i64 s.og, .slice ao s.add.length ca, .slice dl s.del.length cd, .bool s.clr, .slice pr s.pre.length cr]] w fun e w' => e = .returned (.bool r) ∧ Below w.heap.size w w' := by
  obtain ⟨x0, x1, x2, ad, de, cl, pp⟩ := s
  simp only at *
  rw [ok_chain] at hr
  obtain ⟨b0, g0⟩ : ∃ b, (decide (x0 = -1) || decide (0 ≤ x0 ∧ x0 ≤ 1048576)) = b := ⟨_, rfl⟩
  obtain ⟨b1, g1⟩ : ∃ b, (decide (x1 = -1) || decide (0 ≤ x1 ∧ x1 ≤ 1048576)) = b := ⟨_, rfl⟩
  obtain ⟨b2, g2⟩ : ∃ b, (decide (x2 = -1) || decide (0 ≤ x2 ∧ x2 ≤ 2)) = b := ⟨_, rfl⟩
  obtain ⟨b3, g3⟩ : ∃ b, Cm.Co.few ad = b := ⟨_, rfl⟩
  obtain ⟨b4, g4⟩ : ∃ b, Cm.Co.few de = b := ⟨_, rfl⟩
  obtain ⟨b5, g5⟩ : ∃ b, Is.may pp = b := ⟨_, rfl⟩
  rw [g0, g1, g2, g3, g4, g5] at hr
  have HR := hide hr
  have HB := hide (balloc (brefl w) (.cells #[.int .i64 x0, .int .i64 x1, .int .i64 x2, .slice ao ad.length ca, .slice dl de.length cd, .bool cl, .slice pr pp.length cr] 27))
  have N0 := hide (heap_new w #[.int .i64 x0, .int .i64 x1, .int .i64 x2, .slice ao ad.length ca, .slice dl de.length cd, .bool cl, .slice pr pp.length cr] 27)
  have HL := hide (St.lies_below hS HB.out)
  have C0 := hide (fun W' => or28_is x0 b0 g0 W')
  have C1 := hide (fun W' => or29_is x1 b1 g1 W')
  have C2 := hide (fun W' => or30_is x2 b2 g2 W')
  have C3 := hide (fun W' hl => Cm.mayComms_is ao ca ad b3 g3 W' hl (by omega))
  have C4 := hide (fun W' hl => Cm.mayComms_is dl cd de b4 g4 W' hl (by omega))
  have C5 := hide (fun W' hl => may_is pr cr pp b5 g5 W' hl (by omega))
  clear g0 g1 g2 g3 g4 g5 h1 h2 h3 hS hr
  go_enter Tryz.func11, Tryz.ntmps11
  go_wp2_with fail
  generalize w.alloc (.cells #[.int .i64 x0, .int .i64 x1, .int .i64 x2, .slice ao ad.length ca, .slice dl de.length cd, .bool cl, .slice pr pp.length cr] 27) = W at *
  obtain ⟨p, hp⟩ : ∃ p, w.heap.size = p := ⟨_, rfl⟩
  rw [hp] at N0
  rw [hp]
  clear hp
  have B0 := hide (brefl W)
  refine (C0.out _).mono ?_
  rintro e w1 ⟨rfl, hb⟩
  have B1 := hide (bthen B0.out hb)
  clear hb
  cases b0
  · go_wp2_with fail
    go_ret
    exact ⟨ret_bool HR.out, bthen HB.out B1.out⟩
  obtain ⟨c0, c1, c2, c3, c4, c5, c6⟩ := seven_cells ((B1.out.block p (heap_lt N0.out)).trans N0.out)
  go_wp2_with fail
  refine (C1.out _).mono ?_
  rintro e w2 ⟨rfl, hb⟩
  have B2 := hide (bthen B1.out hb)
  clear hb c0 c1 c2 c3 c4 c5 c6
  cases b1
  · go_wp2_with fail
    go_ret
    exact ⟨ret_bool HR.out, bthen HB.out B2.out⟩
  obtain ⟨c0, c1, c2, c3, c4, c5, c6⟩ := seven_cells ((B2.out.block p (heap_lt N0.out)).trans N0.out)
  go_wp2_with fail
  refine (C2.out _).mono ?_
  rintro e w3 ⟨rfl, hb⟩
  have B3 := hide (bthen B2.out hb)
  clear hb c0 c1 c2 c3 c4 c5 c6
  cases b2
  · go_wp2_with fail
    go_ret
    exact ⟨ret_bool HR.out, bthen HB.out B3.out⟩
  obtain ⟨c0, c1, c2, c3, c4, c5, c6⟩ := seven_cells ((B3.out.block p (heap_lt N0.out)).trans N0.out)
  go_wp2_with fail
  refine (C3.out _ (Cm.Co.slot_below HL.out.1 B3.out)).mono ?_
  rintro e w4 ⟨rfl, hb⟩
  have B4 := hide (bthen B3.out hb)
  clear hb c0 c1 c2 c3 c4 c5 c6
  cases b3
  · go_wp2_with fail
    go_ret
    exact ⟨ret_bool HR.out, bthen HB.out B4.out⟩
  obtain ⟨c0, c1, c2, c3, c4, c5, c6⟩ := seven_cells ((B4.out.block p (heap_lt N0.out)).trans N0.out)
  go_wp2_with fail
  refine (C4.out _ (Cm.Co.slot_below HL.out.2.1 B4.out)).mono ?_
  rintro e w5 ⟨rfl, hb⟩
  have B5 := hide (bthen B4.out hb)
  clear hb c0 c1 c2 c3 c4 c5 c6
  cases b4
  · go_wp2_with fail
    go_ret
    exact ⟨ret_bool HR.out, bthen HB.out B5.out⟩
  obtain ⟨c0, c1, c2, c3, c4, c5, c6⟩ := seven_cells ((B5.out.block p (heap_lt N0.out)).trans N0.out)
  go_wp2_with fail
  refine (C5.out _ (Is.slot_below HL.out.2.2 B5.out)).mono ?_
  rintro e w6 ⟨rfl, hb⟩
  have B6 := hide (bthen B5.out hb)
  clear hb c0 c1 c2 c3 c4 c5 c6
  go_wp2_with fail
  go_ret
  exact ⟨ret_bool HR.out, bthen HB.out B6.out⟩
end Go.Proofs.YtpkikfojiibdaaaGreatDoor
