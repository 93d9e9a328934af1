/- The document's Change. -/
import Derived.Test.YtngfoijmknclhaaGreatDoorJ26
import Derived.Test.YtngfoijmknclhaaGreatDoorJ33
import Derived.Test.YtngfoijmknclhaaGreatDoorJ44
namespace Go.Proofs.YtngfoijmknclhaaGreatDoor
open Go.RowKit
def St.nums (a b c : Int) (m n : Nat) : Bool := decide (-1 ≤ a ∧ a ≤ 1048576 ∧ -1 ≤ b ∧ b ≤ 1048576 ∧ -1 ≤ c ∧ c ≤ 2) && (decide (m ≤ 8) && decide (n ≤ 8))
theorem St.ok_eq (s : St) : St.ok s = (St.nums s.pf s.md s.og s.add.length s.del.length && (!(s.add.any fun c => !Cm.Co.may c) && (!(s.del.any fun c => !Cm.Co.may c) && Is.may s.pre))) := by
  unfold St.ok St.nums
  simp only [Bool.and_assoc]
theorem snums_cases (a b c : Int) (m n : Nat) : (St.nums a b c m n = true ∧ ¬ a < -1 ∧ ¬ 1048576 < a ∧ ¬ b < -1 ∧ ¬ 1048576 < b ∧ ¬ c < -1 ∧ ¬ 2 < c ∧ ¬ (8 : Int) < m ∧ ¬ (8 : Int) < n) ∨ (St.nums a b c m n = false ∧ (a < -1 ∨ (¬ a < -1 ∧ 1048576 < a) ∨ (¬ a < -1 ∧ ¬ 1048576 < a ∧ b < -1) ∨ (¬ a < -1 ∧ ¬ 1048576 < a ∧ ¬ b < -1 ∧ 1048576 < b) ∨ (¬ a < -1 ∧ ¬ 1048576 < a ∧ ¬ b < -1 ∧ ¬ 1048576 < b ∧ c < -1) ∨ (¬ a < -1 ∧ ¬ 1048576 < a ∧ ¬ b < -1 ∧ ¬ 1048576 < b ∧ ¬ c < -1 ∧ 2 < c) ∨ (¬ a < -1 ∧ ¬ 1048576 < a ∧ ¬ b < -1 ∧ ¬ 1048576 < b ∧ ¬ c < -1 ∧ ¬ 2 < c ∧ (8 : Int) < m) ∨ (¬ a < -1 ∧ ¬ 1048576 < a ∧ ¬ b < -1 ∧ ¬ 1048576 < b ∧ ¬ c < -1 ∧ ¬ 2 < c ∧ ¬ (8 : Int) < m ∧ (8 : Int) < n))) := by
  have e : St.nums a b c m n = decide ((-1 ≤ a ∧ a ≤ 1048576 ∧ -1 ≤ b ∧ b ≤ 1048576 ∧ -1 ≤ c ∧ c ≤ 2) ∧ m ≤ 8 ∧ n ≤ 8) := by
    unfold St.nums
    rw [Bool.eq_iff_iff]
    simp only [Bool.and_eq_true, decide_eq_true_eq]
  rw [e]
  by_cases h : (-1 ≤ a ∧ a ≤ 1048576 ∧ -1 ≤ b ∧ b ≤ 1048576 ∧ -1 ≤ c ∧ c ≤ 2) ∧ m ≤ 8 ∧ n ≤ 8
  · exact .inl ⟨decide_eq_true h, by omega, by omega, by omega, by omega, by omega, by omega, by omega, by omega⟩
  · refine .inr ⟨decide_eq_false h, ?_⟩
    omega
theorem any_no {l : List Cm.Co.C} {k : Nat} (hk : k < l.length) (h : Cm.Co.may l[k] = false) : (l.any fun c => !Cm.Co.may c) = true := by
  rw [List.any_eq_true]
  exact ⟨l[k], List.getElem_mem hk, by rw [h]; rfl⟩
theorem any_yes {l : List Cm.Co.C} (h : ∀ c ∈ l, Cm.Co.may c = true) : (l.any fun c => !Cm.Co.may c) = false := by
  rw [List.any_eq_false]
  intro c hc
  rw [h c hc]
  decide
theorem no_add {s : St} {k : Nat} (hk : k < s.add.length) (h : Cm.Co.may s.add[k] = false) : St.ok s = false := by
  rw [St.ok_eq, any_no hk h]
  simp
theorem no_del {s : St} {k : Nat} (hk : k < s.del.length) (h : Cm.Co.may s.del[k] = false) : St.ok s = false := by
  rw [St.ok_eq, any_no hk h]
  simp
theorem yes_all {s : St} (hn : St.nums s.pf s.md s.og s.add.length s.del.length = true) (ha : ∀ c ∈ s.add, Cm.Co.may c = true) (hd : ∀ c ∈ s.del, Cm.Co.may c = true) : Is.may s.pre = St.ok s := by
  rw [St.ok_eq, hn, any_yes ha, any_yes hd]
  simp
set_option maxHeartbeats 4000000 in
set_option maxRecDepth 100000 in
theorem refChange_is (s : St) (ao dl pr : Option Addr) (ca cd cr : Nat) (r : Bool) (hr : St.ok s = r) (w : World) (hS : St.lies w s ao dl pr) (h1 : s.add.length ≤ 100) (h2 : s.del.length ≤ 100) (h3 : s.pre.length ≤ 100) :
    Calls Tryz.prog 25 #[.agg #[.int .i64 s.pf, .int .i64 s.md, .int .i64 s.og, .slice ao s.add.length ca, .slice dl s.del.length cd, .bool s.clr, .slice pr s.pre.length cr]] w fun e w' => e = .returned (.bool r) ∧ Below w.heap.size w w' := by
  have BASE := hide (balloc (brefl w) (.cells #[.int .i64 s.pf, .int .i64 s.md, .int .i64 s.og, .slice ao s.add.length ca, .slice dl s.del.length cd, .bool s.clr, .slice pr s.pre.length cr] 43))
  have N0 := hide (heap_new w #[.int .i64 s.pf, .int .i64 s.md, .int .i64 s.og, .slice ao s.add.length ca, .slice dl s.del.length cd, .bool s.clr, .slice pr s.pre.length cr] 43)
  have LS0 := hide (St.lies_below hS BASE.out)
  have HR := hide hr
  clear hS
  rcases snums_cases s.pf s.md s.og s.add.length s.del.length with ⟨hn, k0, k1, k2, k3, k4, k5, k6, k7⟩ | ⟨hn, hc⟩
  rotate_left
  · rw [St.ok_eq, hn, Bool.false_and] at hr
    subst hr
    clear hn HR
    rcases hc with k0 | ⟨k0, k1⟩ | ⟨k0, k1, k2⟩ | ⟨k0, k1, k2, k3⟩ | ⟨k0, k1, k2, k3, k4⟩ | ⟨k0, k1, k2, k3, k4, k5⟩ | ⟨k0, k1, k2, k3, k4, k5, k6⟩ | ⟨k0, k1, k2, k3, k4, k5, k6, k7⟩
    all_goals
      go_enter Tryz.func25, Tryz.ntmps25
      go_wp2_with fail
      go_ret
      exact ⟨rfl, BASE.out⟩
  have HC := hide hn
  clear hn hr
  go_enter Tryz.func25, Tryz.ntmps25
  go_wp2_with fail
  clear k0 k1 k2 k3 k4 k5 k6 k7
  generalize w.alloc (.cells #[.int .i64 s.pf, .int .i64 s.md, .int .i64 s.og, .slice ao s.add.length ca, .slice dl s.del.length cd, .bool s.clr, .slice pr s.pre.length cr] 43) = W at *
  obtain ⟨p, hp⟩ : ∃ p, w.heap.size = p := ⟨_, rfl⟩
  rw [hp] at N0
  rw [hp]
  clear hp
  go_loopw [3] (fun v wr => ∃ k : Nat, v = .int .i64 k ∧ k ≤ s.add.length ∧ Hid (∀ j (h : j < s.add.length), j < k → Cm.Co.may s.add[j] = true) ∧ Below W.heap.size W wr) (fun v _ => s.add.length - (intOf v).toNat)
  case atStart => exact ⟨0, rfl, Nat.zero_le _, hide fun j _ h => absurd h (Nat.not_lt_zero _), brefl _⟩
  case round =>
    obtain ⟨k, rfl, hk, HALL, hbr⟩ := hrel
    have BR := hide hbr
    obtain ⟨d0, d1, d2, d3, d4, d5, d6⟩ := seven_cells ((hbr.block p (heap_lt N0.out)).trans N0.out)
    clear hbr
    by_cases hlt : k < s.add.length
    · have hlt' : (k : Int) < (s.add.length : Int) := by omega
      obtain ⟨b, off, e1, hr⟩ := Cm.Co.slot_at (Cm.Co.slot_below LS0.out.1 BR.out) hlt
      obtain ⟨i0, i1⟩ := Cm.Co.reads_at hr k hlt
      clear hr
      cases hm : Cm.Co.may s.add[k]
      · have CM := hide (fun W => Cm.refMay_is s.add[k].1 s.add[k].2 false hm W)
        have HN : Hid (r = false) := by show _ = _; rw [← HR.out]; exact no_add hlt hm
        clear hm
        subst e1
        generalize s.add[k] = y at i0 i1 CM
        go_wp2_with fail
        refine (CM.out _).mono ?_
        rintro e w2 ⟨rfl, hb2⟩
        have B2 := hide (bthen BR.out hb2)
        clear hb2
        go_wp2_with fail
        go_ret
        exact ⟨ret_bool HN.out.symm, bthen BASE.out B2.out⟩
      · have CM := hide (fun W => Cm.refMay_is s.add[k].1 s.add[k].2 true hm W)
        have HMk := hide hm
        clear hm
        generalize hy : s.add[k] = y at i0 i1 CM
        clear hy
        subst e1
        go_wp2_with fail
        refine (CM.out _).mono ?_
        rintro e w2 ⟨rfl, hb2⟩
        have B2 := hide (bthen BR.out hb2)
        clear hb2
        go_wp2_with fail
        refine ⟨⟨k + 1, by go_num, hlt, hide fun j hj hjk => ?_, B2.out⟩, by simp [intOf]; omega⟩
        rcases Nat.lt_or_ge j k with h | h
        · exact HALL.out j hj h
        · obtain rfl : j = k := by omega
          exact HMk.out
    · have hnl : ¬ (k : Int) < (s.add.length : Int) := by omega
      have HF : Hid (∀ c ∈ s.add, Cm.Co.may c = true) := fun c hc => by obtain ⟨j, hj, rfl⟩ := List.mem_iff_getElem.1 hc; exact HALL.out j hj (by omega)
      go_wp2_with fail
      clear d0 d1 d2 d3 d4 d5 d6
      have B5 := BR
      have N5 := hide ((BR.out.block p (heap_lt N0.out)).trans N0.out)
      have BASE5 := hide (bthen BASE.out BR.out)
      have HF0 := HF
      obtain ⟨W5, hW5⟩ : ∃ x, x = wr := ⟨_, rfl⟩
      subst hW5
      clear BR HF HALL BASE N0
      have BASE := BASE5
      have N0 := N5
      clear BASE5 N5
      go_loopw [4] (fun v wr => ∃ k : Nat, v = .int .i64 k ∧ k ≤ s.del.length ∧ Hid (∀ j (h : j < s.del.length), j < k → Cm.Co.may s.del[j] = true) ∧ Below W5.heap.size W5 wr) (fun v _ => s.del.length - (intOf v).toNat)
      case atStart => exact ⟨0, rfl, Nat.zero_le _, hide fun j _ h => absurd h (Nat.not_lt_zero _), brefl _⟩
      case round =>
        obtain ⟨k, rfl, hk, HALL, hbr⟩ := hrel
        have BR := hide hbr
        obtain ⟨d0, d1, d2, d3, d4, d5, d6⟩ := seven_cells ((hbr.block p (heap_lt N0.out)).trans N0.out)
        clear hbr
        by_cases hlt : k < s.del.length
        · have hlt' : (k : Int) < (s.del.length : Int) := by omega
          obtain ⟨b, off, e1, hr⟩ := Cm.Co.slot_at (Cm.Co.slot_below (Cm.Co.slot_below LS0.out.2.1 B5.out) BR.out) hlt
          obtain ⟨i0, i1⟩ := Cm.Co.reads_at hr k hlt
          clear hr
          cases hm : Cm.Co.may s.del[k]
          · have CM := hide (fun W => Cm.refMay_is s.del[k].1 s.del[k].2 false hm W)
            have HN : Hid (r = false) := by show _ = _; rw [← HR.out]; exact no_del hlt hm
            clear hm
            subst e1
            generalize s.del[k] = y at i0 i1 CM
            go_wp2_with fail
            refine (CM.out _).mono ?_
            rintro e w2 ⟨rfl, hb2⟩
            have B2 := hide (bthen BR.out hb2)
            clear hb2
            go_wp2_with fail
            go_ret
            exact ⟨ret_bool HN.out.symm, bthen BASE.out B2.out⟩
          · have CM := hide (fun W => Cm.refMay_is s.del[k].1 s.del[k].2 true hm W)
            have HMk := hide hm
            clear hm
            generalize hy : s.del[k] = y at i0 i1 CM
            clear hy
            subst e1
            go_wp2_with fail
            refine (CM.out _).mono ?_
            rintro e w2 ⟨rfl, hb2⟩
            have B2 := hide (bthen BR.out hb2)
            clear hb2
            go_wp2_with fail
            refine ⟨⟨k + 1, by go_num, hlt, hide fun j hj hjk => ?_, B2.out⟩, by simp [intOf]; omega⟩
            rcases Nat.lt_or_ge j k with h | h
            · exact HALL.out j hj h
            · obtain rfl : j = k := by omega
              exact HMk.out
        · have hnl : ¬ (k : Int) < (s.del.length : Int) := by omega
          have HF : Hid (∀ c ∈ s.del, Cm.Co.may c = true) := fun c hc => by obtain ⟨j, hj, rfl⟩ := List.mem_iff_getElem.1 hc; exact HALL.out j hj (by omega)
          go_wp2_with fail
          have CP := hide (refMay_is pr cr s.pre r (by rw [← HR.out]; exact yes_all HC.out HF0.out HF.out) wr (Is.slot_below (Is.slot_below LS0.out.2.2 B5.out) BR.out) (by omega))
          refine CP.out.mono ?_
          rintro e w9 ⟨rfl, hw9⟩
          subst w9
          go_wp2_with fail
          go_ret
          exact ⟨rfl, bthen BASE.out BR.out⟩
end Go.Proofs.YtngfoijmknclhaaGreatDoor
namespace Go.Proofs.YtngfoijmknclhaaGreatDoor
open Go.RowKit Go.Sort
set_option maxHeartbeats 16000000 in
set_option maxRecDepth 100000 in
theorem refMay_isK (v : Value) (l : List Kl) (w : World) (h : Rd w 13 KlR v l) (hf : ∀ c ∈ l, fewK c) (hlen : l.length ≤ 100) :
    Calls Tryz.prog 12 #[v] w fun e w' => e = .returned (.bool (mapOk l)) ∧ Below w.heap.size w w' := by
  obtain ⟨ao, ca, rfl⟩ := h.slice
  have HE : Hid (mapOk l = (decide (l.length ≤ 16) && risesK 0 (l.drop 0))) := rfl
  generalize mapOk l = R at *
  have H := hide h
  have HF := hide hf
  clear h hf
  go_enter Tryz.func12, Tryz.ntmps12
  go_wp2_with fail
  go_loopw [3] (fun v3 wr => ∃ (k : Nat) (q : Int), v3 = .int .i64 k ∧ k ≤ l.length ∧ k ≤ 16 ∧ 0 ≤ q ∧ Hid ((k = 0 ∧ q = 0) ∨ ∃ j, ∃ hj : j < l.length, k = j + 1 ∧ q = l[j].n) ∧ Hid (R = (decide (l.length ≤ 16) && risesK q (l.drop k))) ∧ Hid (Below w.heap.size w wr)) (fun v3 _ => l.length - (intOf v3).toNat)
  case atStart => exact ⟨0, 0, rfl, Nat.zero_le _, Nat.zero_le _, Int.le_refl _, .inl ⟨rfl, rfl⟩, HE, brefl w⟩
  case round =>
    obtain ⟨k, q, rfl, hk, hk16, hq0, HQ, HK, HBR⟩ := hrel
    by_cases hkl : k < l.length
    · have hkl' : (k : Int) < (l.length : Int) := by omega
      obtain ⟨b, off, xs, rfl, hbw, hx, hxl, ha⟩ := (Rd.below KlR.mono H.out HBR.out).at_ hkl
      obtain ⟨hf1, hf2, hf3⟩ := HF.out l[k] (List.getElem_mem hkl)
      obtain ⟨o1, o2, o3, c1, c2, c3, rfl, hs, hc⟩ := hx
      unfold Kl.cells at ha
      have HPV : Hid (∀ j, ∀ hj : j < l.length, wr.cell? ⟨b, off + j * 13, none⟩ = some (.int .i64 l[j].n)) := fun j hj => by
        obtain ⟨b', off', xs', e1, _, hx', _, ha'⟩ := (Rd.below KlR.mono H.out HBR.out).at_ hj
        cases e1
        obtain ⟨_, _, _, _, _, _, rfl, _, _⟩ := hx'
        exact ha' 0 _ rfl
      have HKN : Hid (R = (decide (l.length ≤ 16) && (decide (q < l[k].n) && (decide (l[k].n ≤ 65535) && (St.ok l[k].s && risesK l[k].n (l.drop (k + 1))))))) := by show _ = _; rw [HK.out, drop_cons hkl]; rfl
      obtain ⟨so, hso⟩ : ∃ x, St.ok l[k].s = x := ⟨_, rfl⟩
      have CG := hide (fun W' (hb : Below wr.heap.size wr W') => refChange_is l[k].s o1 o2 o3 c1 c2 c3 so hso W' (St.lies_below hs hb) hf1 hf2 hf3)
      rw [hso] at HKN
      clear HK hs hc hf1 hf2 hf3 hso hxl
      obtain ⟨tl, htl⟩ : ∃ x, x = risesK l[k].n (l.drop (k + 1)) := ⟨_, rfl⟩
      have HTL := hide htl
      rw [← htl] at HKN
      clear htl
      obtain ⟨y, hy⟩ : ∃ y, l[k] = y := ⟨_, rfl⟩
      have HLK0 : Hid (l[k] = y) := hy
      rw [hy] at ha HKN CG HTL
      clear hy
      obtain ⟨n, okv, ls, pt, qa, qn, ⟨pf, md, og, ad, de, clr, pp⟩⟩ := y
      have HLK : Hid (l[k].n = n) := by show _ = _; rw [HLK0.out]
      clear HLK0
      simp only at *
      generalize ad.length = na at *
      generalize de.length = nd at *
      generalize pp.length = np at *
      have e0 := ha 0 _ rfl
      have e6 := ha 6 _ rfl
      have e7 := ha 7 _ rfl
      have e8 := ha 8 _ rfl
      have e9 := ha 9 _ rfl
      have e10 := ha 10 _ rfl
      have e11 := ha 11 _ rfl
      have e12 := ha 12 _ rfl
      simp only [Nat.add_zero] at e0
      clear ha
      have r0 := fun dd os => cell_regrown e0 dd os
      have r6 := fun dd os => cell_regrown e6 dd os
      have r7 := fun dd os => cell_regrown e7 dd os
      have r8 := fun dd os => cell_regrown e8 dd os
      have r9 := fun dd os => cell_regrown e9 dd os
      have r10 := fun dd os => cell_regrown e10 dd os
      have r11 := fun dd os => cell_regrown e11 dd os
      have r12 := fun dd os => cell_regrown e12 dd os
      by_cases h16 : 16 ≤ k
      · have h16' : (16 : Int) ≤ (k : Int) := by omega
        have HN : Hid (R = false) := by show _ = _; rw [HKN.out, decide_eq_false (show ¬ l.length ≤ 16 by omega)]; rfl
        clear HKN HQ HPV
        go_wp2_with fail
        refine wp_region_quiet_below (by kernel_rfl) (by kernel_rfl) ?_
        repeat (go_big_quiet_step ((go_at_call 25; exact Calls.regrown_of (CG.out _ (below_regrown _ _ _)))))
        refine wpQuiet_nil ?_
        rintro _ ⟨⟨dd, os⟩, rfl⟩
        have hb1 := below_regrown wr dd os
        generalize Sort.grow (redrawn wr dd) os = w1 at hb1
        have B1 := hide (bthen HBR.out hb1)
        clear hb1
        go_wp2_with fail
        go_ret
        exact ⟨ret_bool HN.out.symm, B1.out⟩
      · have h16' : ¬ (16 : Int) ≤ (k : Int) := by omega
        have hd16 : decide ((16 : Int) ≤ (k : Int)) = false := by simpa using h16'
        by_cases h1 : n < 1
        · have HN : Hid (R = false) := by show _ = _; rw [HKN.out, decide_eq_false (show ¬ q < n by omega)]; simp
          clear HKN HQ HPV
          go_wp2_with fail
          refine wp_region_quiet_below (by kernel_rfl) (by kernel_rfl) ?_
          repeat (go_big_quiet_step ((go_at_call 25; exact Calls.regrown_of (CG.out _ (below_regrown _ _ _)))))
          refine wpQuiet_nil ?_
          rintro _ ⟨⟨dd, os⟩, rfl⟩
          have hb1 := below_regrown wr dd os
          generalize Sort.grow (redrawn wr dd) os = w1 at hb1
          have B1 := hide (bthen HBR.out hb1)
          clear hb1
          go_wp2_with fail
          go_ret
          exact ⟨ret_bool HN.out.symm, B1.out⟩
        · have hd1 : decide (n < 1) = false := by simpa using h1
          by_cases hm : 65535 < n
          · have HN : Hid (R = false) := by show _ = _; rw [HKN.out, decide_eq_false (show ¬ n ≤ 65535 by omega)]; simp
            clear HKN HQ HPV
            go_wp2_with fail
            refine wp_region_quiet_below (by kernel_rfl) (by kernel_rfl) ?_
            repeat (go_big_quiet_step ((go_at_call 25; exact Calls.regrown_of (CG.out _ (below_regrown _ _ _)))))
            refine wpQuiet_nil ?_
            rintro _ ⟨⟨dd, os⟩, rfl⟩
            have hb1 := below_regrown wr dd os
            generalize Sort.grow (redrawn wr dd) os = w1 at hb1
            have B1 := hide (bthen HBR.out hb1)
            clear hb1
            go_wp2_with fail
            go_ret
            exact ⟨ret_bool HN.out.symm, B1.out⟩
          · have hdm : decide (65535 < n) = false := by simpa using hm
            rcases HQ.out with ⟨rfl, rfl⟩ | ⟨j, hj, rfl, rfl⟩
            · clear HPV
              simp only [Nat.zero_mul, Nat.add_zero] at r0 r6 r7 r8 r9 r10 r11 r12
              cases so with
              | false =>
                have HN : Hid (R = false) := by show _ = _; rw [HKN.out]; simp
                clear HKN HQ
                go_wp2_with fail
                refine wp_region_quiet_below (by kernel_rfl) (by kernel_rfl) ?_
                repeat (go_big_quiet_step ((go_at_call 25; exact Calls.regrown_of (CG.out _ (below_regrown _ _ _)))))
                refine wpQuiet_nil ?_
                rintro _ ⟨⟨dd, os⟩, rfl⟩
                have hb1 := below_regrown wr dd os
                generalize Sort.grow (redrawn wr dd) os = w1 at hb1
                have B1 := hide (bthen HBR.out hb1)
                clear hb1
                go_wp2_with fail
                go_ret
                exact ⟨ret_bool HN.out.symm, B1.out⟩
              | true =>
                have HN : Hid (R = (decide (l.length ≤ 16) && risesK n (l.drop (0 + 1)))) := by show _ = _; rw [HKN.out, ← HTL.out, decide_eq_true (show (0 : Int) < n by omega), decide_eq_true (show n ≤ 65535 by omega)]; simp
                clear HKN HTL
                go_wp2_with fail
                refine wp_region_quiet_below (by kernel_rfl) (by kernel_rfl) ?_
                repeat (go_big_quiet_step ((go_at_call 25; exact Calls.regrown_of (CG.out _ (below_regrown _ _ _)))))
                refine wpQuiet_nil ?_
                rintro _ ⟨⟨dd, os⟩, rfl⟩
                have hb1 := below_regrown wr dd os
                generalize Sort.grow (redrawn wr dd) os = w1 at hb1
                have B1 := hide (bthen HBR.out hb1)
                clear hb1
                go_wp2_with fail
                exact ⟨⟨0 + 1, n, by go_num, by omega, by omega, by omega, hide (.inr ⟨0, hkl, rfl, HLK.out.symm⟩), HN, B1⟩, by simp [intOf] <;> omega⟩
            · have p0 := HPV.out j hj
              have rp := fun dd os => cell_regrown p0 dd os
              have hjl : (j : Int) < (l.length : Int) := by omega
              have hd17 : decide ((16 : Int) ≤ (j : Int) + 1) = false := by rw [decide_eq_false_iff_not]; omega
              have hj0 : (0 : Int) < ((j + 1 : Nat) : Int) := by omega
              have hj1 : (0 : Int) < (j : Int) + 1 := by omega
              have hw1 : IntKind.i64.wrap ((j : Int) + 1 - 1) = j := by rw [IntKind.wrap_i64]; omega
              have hw2 : ((j : Int) + 1 - 1) = j := by omega
              clear HPV
              obtain ⟨q, hq⟩ : ∃ q, l[j].n = q := ⟨_, rfl⟩
              rw [hq] at HKN hq0 p0
              simp only [hq] at rp
              clear hq
              by_cases hqn : n ≤ q
              · have HN : Hid (R = false) := by show _ = _; rw [HKN.out, decide_eq_false (show ¬ q < n by omega)]; simp
                clear HKN HQ
                go_wp2_with fail
                refine wp_region_quiet_below (by kernel_rfl) (by kernel_rfl) ?_
                repeat (go_big_quiet_step ((go_at_call 25; exact Calls.regrown_of (CG.out _ (below_regrown _ _ _)))))
                refine wpQuiet_nil ?_
                rintro _ ⟨⟨dd, os⟩, rfl⟩
                have hb1 := below_regrown wr dd os
                generalize Sort.grow (redrawn wr dd) os = w1 at hb1
                have B1 := hide (bthen HBR.out hb1)
                clear hb1
                go_wp2_with fail
                go_ret
                exact ⟨ret_bool HN.out.symm, B1.out⟩
              · have hdq : decide (n ≤ q) = false := by simpa using hqn
                cases so with
                | false =>
                  have HN : Hid (R = false) := by show _ = _; rw [HKN.out]; simp
                  clear HKN HQ
                  go_wp2_with fail
                  refine wp_region_quiet_below (by kernel_rfl) (by kernel_rfl) ?_
                  repeat (go_big_quiet_step ((go_at_call 25; exact Calls.regrown_of (CG.out _ (below_regrown _ _ _)))))
                  refine wpQuiet_nil ?_
                  rintro _ ⟨⟨dd, os⟩, rfl⟩
                  have hb1 := below_regrown wr dd os
                  generalize Sort.grow (redrawn wr dd) os = w1 at hb1
                  have B1 := hide (bthen HBR.out hb1)
                  clear hb1
                  go_wp2_with fail
                  go_ret
                  exact ⟨ret_bool HN.out.symm, B1.out⟩
                | true =>
                  have HN : Hid (R = (decide (l.length ≤ 16) && risesK n (l.drop (j + 1 + 1)))) := by show _ = _; rw [HKN.out, ← HTL.out, decide_eq_true (show q < n by omega), decide_eq_true (show n ≤ 65535 by omega)]; simp
                  clear HKN HTL
                  go_wp2_with fail
                  refine wp_region_quiet_below (by kernel_rfl) (by kernel_rfl) ?_
                  repeat (go_big_quiet_step ((go_at_call 25; exact Calls.regrown_of (CG.out _ (below_regrown _ _ _)))))
                  refine wpQuiet_nil ?_
                  rintro _ ⟨⟨dd, os⟩, rfl⟩
                  have hb1 := below_regrown wr dd os
                  generalize Sort.grow (redrawn wr dd) os = w1 at hb1
                  have B1 := hide (bthen HBR.out hb1)
                  clear hb1
                  go_wp2_with fail
                  exact ⟨⟨j + 1 + 1, n, by go_num, by omega, by omega, by omega, hide (.inr ⟨j + 1, hkl, rfl, HLK.out.symm⟩), HN, B1⟩, by simp [intOf] <;> omega⟩
    · have hkl' : ¬ (k : Int) < (l.length : Int) := by omega
      have HN : Hid (R = true) := by show _ = _; rw [HK.out, List.drop_of_length_le (by omega), decide_eq_true (by omega)]; rfl
      go_wp2_with fail
      go_ret
      exact ⟨ret_bool HN.out.symm, HBR.out⟩
set_option maxHeartbeats 4000000 in
set_option maxRecDepth 100000 in
theorem right_is (pa pb : Int) (a : At) (po co ko : Option Addr) (cp cc ck : Nat) (w : World) (hp : 0 ≤ pa ∧ pa ≤ 4294967295) (hA : At.lies w a po co ko) (h1 : a.path.length ≤ 100) (h2 : a.comms.length ≤ 100) (h3 : a.cl.length ≤ 100) :
    Calls Tryz.prog 14 #[.agg #[.int .u32 pa, .int .i64 pb], AtV a po co ko cp cc ck] w fun e w' => e = .returned (.bool (routeOk pa pb a)) ∧ Below w.heap.size w w' := by
  obtain ⟨ma, hma⟩ : ∃ x, At.may a = x := ⟨_, rfl⟩
  obtain ⟨mp, hmp⟩ : ∃ x, Pl.Ad.may pa pb = x := ⟨_, rfl⟩
  have CP := hide (fun W' => Pl.refMay_is pa pb mp hmp W' hp.1 hp.2)
  have CM := hide (fun W' (hb : Below w.heap.size w W') => refMayA_is a po co ko cp cc ck ma hma W' (At.lies_below hA hb) h1 h2 h3)
  have HR : Hid (routeOk pa pb a = (mp && ma)) := by show _ = _; unfold routeOk; rw [hma, hmp]
  unfold AtV
  have A1 := balloc (brefl w) (.cells #[.int .u32 pa, .int .i64 pb] 26)
  have N1 := hide (heap_new w #[.int .u32 pa, .int .i64 pb] 26)
  have A2 := balloc A1 (.cells #[.int .i64 a.pf, .int .i64 a.md, .int .i64 a.og, .slice po a.path.length cp, .slice co a.comms.length cc, .int .i64 a.fr, .slice ko a.cl.length ck] 30)
  have N2 := hide (heap_new (w.alloc (.cells #[.int .u32 pa, .int .i64 pb] 26)) #[.int .i64 a.pf, .int .i64 a.md, .int .i64 a.og, .slice po a.path.length cp, .slice co a.comms.length cc, .int .i64 a.fr, .slice ko a.cl.length ck] 30)
  have N1' := hide (((balloc (brefl (w.alloc (.cells #[.int .u32 pa, .int .i64 pb] 26))) (.cells #[.int .i64 a.pf, .int .i64 a.md, .int .i64 a.og, .slice po a.path.length cp, .slice co a.comms.length cc, .int .i64 a.fr, .slice ko a.cl.length ck] 30)).block w.heap.size (heap_lt N1.out)).trans N1.out)
  have SZ : Hid ((w.alloc (.cells #[.int .u32 pa, .int .i64 pb] 26)).heap.size = w.heap.size + 1) := sizeA _ _
  have B2 := hide A2
  clear hma hmp hA h1 h2 h3 hp A1 A2 N1
  rw [SZ.out] at N2
  generalize routeOk pa pb a = R at *
  generalize a.path.length = np at *
  generalize a.comms.length = nc at *
  generalize a.cl.length = nk at *
  go_enter Tryz.func14, Tryz.ntmps14
  go_upto_region 1 with fail
  generalize (w.alloc (.cells #[.int .u32 pa, .int .i64 pb] 26)).alloc (.cells #[.int .i64 a.pf, .int .i64 a.md, .int .i64 a.og, .slice po np cp, .slice co nc cc, .int .i64 a.fr, .slice ko nk ck] 30) = W2 at *
  have n0 := cell_of N1'.out 0 rfl
  have n1 := cell_of N1'.out 1 rfl
  go_wp2_with fail
  refine (CP.out W2).mono ?_
  rintro e w3 ⟨rfl, hb3⟩
  have N3 := hide ((hb3.block (w.heap.size + 1) (heap_lt N2.out)).trans N2.out)
  have B3 := hide (bthen B2.out hb3)
  clear hb3 n0 n1
  cases mp with
  | false =>
    go_wp2_with fail
    go_ret
    exact ⟨ret_bool HR.out.symm, B3.out⟩
  | true =>
    obtain ⟨c0, c1, c2, c3, c4, c5, c6⟩ := seven_cells N3.out
    go_wp2_with fail
    refine (CM.out _ B3.out).mono ?_
    rintro e w4 ⟨rfl, hb4⟩
    have B4 := hide (bthen B3.out hb4)
    clear hb4
    go_wp2_with fail
    go_ret
    exact ⟨ret_bool HR.out.symm, B4.out⟩
end Go.Proofs.YtngfoijmknclhaaGreatDoor
