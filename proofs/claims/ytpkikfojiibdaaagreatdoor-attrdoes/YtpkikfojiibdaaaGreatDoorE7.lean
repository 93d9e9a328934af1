import Derived.Test.YtpkikfojiibdaaaGreatDoorM3
/- The document's Change. -/
namespace Go.Proofs.YtpkikfojiibdaaaGreatDoor
open Go.RowKit

def St.nums (a b c : Int) (m n : Nat) : Bool := decide (-1 ≤ a ∧ a ≤ 1048576 ∧ -1 ≤ b ∧ b ≤ 1048576 ∧ -1 ≤ c ∧ c ≤ 2) && (decide (m ≤ 8) && decide (n ≤ 8))
theorem St.ok_eq (s : St) : St.ok s = (St.nums s.pf s.md s.og s.add.length s.del.length && (!(s.add.any fun c => !Cm.Co.may c) && (!(s.del.any fun c => !Cm.Co.may c) && Is.may s.pre))) := by
  unfold St.ok St.nums
  simp only [Bool.and_assoc]
theorem snums_cases (a b c : Int) (m n : Nat) : (St.nums a b c m n = true ∧ ¬ a < -1 ∧ ¬ 1048576 < a ∧ ¬ b < -1 ∧ ¬ 1048576 < b ∧ ¬ c < -1 ∧ ¬ 2 < c ∧ ¬ (8 : Int) < m ∧ ¬ (8 : Int) < n) ∨ (St.nums a b c m n = false ∧ (a < -1 ∨ (¬ a < -1 ∧ 1048576 < a) ∨ (¬ a < -1 ∧ ¬ 1048576 < a ∧ b < -1) ∨ (¬ a < -1 ∧ ¬ 1048576 < a ∧ ¬ b < -1 ∧ 1048576 < b) ∨ (¬ a < -1 ∧ ¬ 1048576 < a ∧ ¬ b < -1 ∧ ¬ 1048576 < b ∧ c < -1) ∨ (¬ a < -1 ∧ ¬ 1048576 < a ∧ ¬ b < -1 ∧ ¬ 1048576 < b ∧ ¬ c < -1 ∧ 2 < c) ∨ (¬ a < -1 ∧ ¬ 1048576 < a ∧ ¬ b < -1 ∧ ¬ 1048576 < b ∧ ¬ c < -1 ∧ ¬ 2 < c ∧ (8 : Int) < m) ∨ (¬ a < -1 ∧ ¬ 1048576 < a ∧ ¬ b < -1 ∧ ¬ 1048576 < b ∧ ¬ c < -1 ∧ ¬ 2 < c ∧ ¬ (8 : Int) < m ∧ (8 : Int) < n))) := by
  have e : St.nums a b c m n = decide ((-1 ≤ a ∧ a ≤ 1048576 ∧ -1 ≤ b ∧ b ≤ 1048576 ∧ -1 ≤ c ∧ c ≤ 2) ∧ m ≤ 8 ∧ n ≤ 8) := by
    unfold St.nums
    rw [Bool.eq_iff_iff]
    simp only [Bool.and_eq_true, decide_eq_true_eq]
  rw [e]
  by_cases h : (-1 ≤ a ∧ a ≤ 1048576 ∧ -1 ≤ b ∧ b ≤ 1048576 ∧ -1 ≤ c ∧ c ≤ 2) ∧ m ≤ 8 ∧ n ≤ 8
  · exact .inl ⟨decide_eq_true h, by omega, by omega, by omega, by omega, by omega, by omega, by omega, by omega⟩
  · refine .inr ⟨decide_eq_false h, ?_⟩
    omega
theorem any_no {l : List Cm.Co.C} {k : Nat} (hk : k < l.length) (h : Cm.Co.may l[k] = false) : (l.any fun c => !Cm.Co.may c) = true := by
  rw [List.any_eq_true]
  exact ⟨l[k], List.getElem_mem hk, by rw [h]; rfl⟩
theorem any_yes {l : List Cm.Co.C} (h : ∀ c ∈ l, Cm.Co.may c = true) : (l.any fun c => !Cm.Co.may c) = false := by
  rw [List.any_eq_false]
  intro c hc
  rw [h c hc]
  decide
theorem no_add {s : St} {k : Nat} (hk : k < s.add.length) (h : Cm.Co.may s.add[k] = false) : St.ok s = false := by
  rw [St.ok_eq, any_no hk h]
  simp
theorem no_del {s : St} {k : Nat} (hk : k < s.del.length) (h : Cm.Co.may s.del[k] = false) : St.ok s = false := by
  rw [St.ok_eq, any_no hk h]
  simp
theorem yes_all {s : St} (hn : St.nums s.pf s.md s.og s.add.length s.del.length = true) (ha : ∀ c ∈ s.add, Cm.Co.may c = true) (hd : ∀ c ∈ s.del, Cm.Co.may c = true) : Is.may s.pre = St.ok s := by
  rw [St.ok_eq, hn, any_yes ha, any_yes hd]
  simp
set_option maxHeartbeats 4000000 in
set_option maxRecDepth 100000 in
theorem refChange_is (s : St) (ao dl pr : Option Addr) (ca cd cr : Nat) (r : Bool) (hr : St.ok s = r) (w : World) (hS : St.lies w s ao dl pr) (h1 : s.add.length ≤ 100) (h2 : s.del.length ≤ 100) (h3 : s.pre.length ≤ 100) :
    Calls Tryz.prog 12 #[.agg #[.int .i64 s.pf, .int .i64 s.md, .int .i64 s.og, .slice ao s.add.length ca, .slice dl s.del.length cd, .bool s.clr, .slice pr s.pre.length cr]] w fun e w' => e = .returned (.bool r) ∧ Below w.heap.size w w' := by
  have BASE := hide (balloc (brefl w) (.cells #[.int .i64 s.pf, .int .i64 s.md, .int .i64 s.og, .slice ao s.add.length ca, .slice dl s.del.length cd, .bool s.clr, .slice pr s.pre.length cr] 27))
  have N0 := hide (heap_new w #[.int .i64 s.pf, .int .i64 s.md, .int .i64 s.og, .slice ao s.add.length ca, .slice dl s.del.length cd, .bool s.clr, .slice pr s.pre.length cr] 27)
  have LS0 := hide (St.lies_below hS BASE.out)
  have HR := hide hr
  clear hS
  rcases snums_cases s.pf s.md s.og s.add.length s.del.length with ⟨hn, k0, k1, k2, k3, k4, k5, k6, k7⟩ | ⟨hn, hc⟩
  rotate_left
  · rw [St.ok_eq, hn, Bool.false_and] at hr
    subst hr
    clear hn HR
    rcases hc with k0 | ⟨k0, k1⟩ | ⟨k0, k1, k2⟩ | ⟨k0, k1, k2, k3⟩ | ⟨k0, k1, k2, k3, k4⟩ | ⟨k0, k1, k2, k3, k4, k5⟩ | ⟨k0, k1, k2, k3, k4, k5, k6⟩ | ⟨k0, k1, k2, k3, k4, k5, k6, k7⟩
    all_goals
      go_enter Tryz.func12, Tryz.ntmps12
      go_wp2_with fail
      go_ret
      exact ⟨rfl, BASE.out⟩
  have HC := hide hn
  clear hn hr
  go_enter Tryz.func12, Tryz.ntmps12
  go_wp2_with fail
  clear k0 k1 k2 k3 k4 k5 k6 k7
  generalize w.alloc (.cells #[.int .i64 s.pf, .int .i64 s.md, .int .i64 s.og, .slice ao s.add.length ca, .slice dl s.del.length cd, .bool s.clr, .slice pr s.pre.length cr] 27) = W at *
  obtain ⟨p, hp⟩ : ∃ p, w.heap.size = p := ⟨_, rfl⟩
  rw [hp] at N0
  rw [hp]
  clear hp
  go_loopw [3] (fun v wr => ∃ k : Nat, v = .int .i64 k ∧ k ≤ s.add.length ∧ Hid (∀ j (h : j < s.add.length), j < k → Cm.Co.may s.add[j] = true) ∧ Below W.heap.size W wr) (fun v _ => s.add.length - (intOf v).toNat)
  case atStart => exact ⟨0, rfl, Nat.zero_le _, hide fun j _ h => absurd h (Nat.not_lt_zero _), brefl _⟩
  case round =>
    obtain ⟨k, rfl, hk, HALL, hbr⟩ := hrel
    have BR := hide hbr
    obtain ⟨d0, d1, d2, d3, d4, d5, d6⟩ := seven_cells ((hbr.block p (heap_lt N0.out)).trans N0.out)
    clear hbr
    by_cases hlt : k < s.add.length
    · have hlt' : (k : Int) < (s.add.length : Int) := by omega
      obtain ⟨b, off, e1, hr⟩ := Cm.Co.slot_at (Cm.Co.slot_below LS0.out.1 BR.out) hlt
      obtain ⟨i0, i1⟩ := Cm.Co.reads_at hr k hlt
      clear hr
      cases hm : Cm.Co.may s.add[k]
      · have CM := hide (fun W => Cm.refMay_is s.add[k].1 s.add[k].2 false hm W)
        have HN : Hid (r = false) := by show _ = _; rw [← HR.out]; exact no_add hlt hm
        clear hm
        subst e1
        generalize s.add[k] = y at i0 i1 CM
        go_wp2_with fail
        refine (CM.out _).mono ?_
        rintro e w2 ⟨rfl, hb2⟩
        have B2 := hide (bthen BR.out hb2)
        clear hb2
        go_wp2_with fail
        go_ret
        exact ⟨ret_bool HN.out.symm, bthen BASE.out B2.out⟩
      · have CM := hide (fun W => Cm.refMay_is s.add[k].1 s.add[k].2 true hm W)
        have HMk := hide hm
        clear hm
        generalize hy : s.add[k] = y at i0 i1 CM
        clear hy
        subst e1
        go_wp2_with fail
        refine (CM.out _).mono ?_
        rintro e w2 ⟨rfl, hb2⟩
        have B2 := hide (bthen BR.out hb2)
        clear hb2
        go_wp2_with fail
        refine ⟨⟨k + 1, by go_num, hlt, hide fun j hj hjk => ?_, B2.out⟩, by simp [intOf]; omega⟩
        rcases Nat.lt_or_ge j k with h | h
        · exact HALL.out j hj h
        · obtain rfl : j = k := by omega
          exact HMk.out
    · have hnl : ¬ (k : Int) < (s.add.length : Int) := by omega
      have HF : Hid (∀ c ∈ s.add, Cm.Co.may c = true) := fun c hc => by obtain ⟨j, hj, rfl⟩ := List.mem_iff_getElem.1 hc; exact HALL.out j hj (by omega)
      go_wp2_with fail
      clear d0 d1 d2 d3 d4 d5 d6
      have B5 := BR
      have N5 := hide ((BR.out.block p (heap_lt N0.out)).trans N0.out)
      have BASE5 := hide (bthen BASE.out BR.out)
      have HF0 := HF
      obtain ⟨W5, hW5⟩ : ∃ x, x = wr := ⟨_, rfl⟩
      subst hW5
      clear BR HF HALL BASE N0
      have BASE := BASE5
      have N0 := N5
      clear BASE5 N5
      go_loopw [4] (fun v wr => ∃ k : Nat, v = .int .i64 k ∧ k ≤ s.del.length ∧ Hid (∀ j (h : j < s.del.length), j < k → Cm.Co.may s.del[j] = true) ∧ Below W5.heap.size W5 wr) (fun v _ => s.del.length - (intOf v).toNat)
      case atStart => exact ⟨0, rfl, Nat.zero_le _, hide fun j _ h => absurd h (Nat.not_lt_zero _), brefl _⟩
      case round =>
        obtain ⟨k, rfl, hk, HALL, hbr⟩ := hrel
        have BR := hide hbr
        obtain ⟨d0, d1, d2, d3, d4, d5, d6⟩ := seven_cells ((hbr.block p (heap_lt N0.out)).trans N0.out)
        clear hbr
        by_cases hlt : k < s.del.length
        · have hlt' : (k : Int) < (s.del.length : Int) := by omega
          obtain ⟨b, off, e1, hr⟩ := Cm.Co.slot_at (Cm.Co.slot_below (Cm.Co.slot_below LS0.out.2.1 B5.out) BR.out) hlt
          obtain ⟨i0, i1⟩ := Cm.Co.reads_at hr k hlt
          clear hr
          cases hm : Cm.Co.may s.del[k]
          · have CM := hide (fun W => Cm.refMay_is s.del[k].1 s.del[k].2 false hm W)
            have HN : Hid (r = false) := by show _ = _; rw [← HR.out]; exact no_del hlt hm
            clear hm
            subst e1
            generalize s.del[k] = y at i0 i1 CM
            go_wp2_with fail
            refine (CM.out _).mono ?_
            rintro e w2 ⟨rfl, hb2⟩
            have B2 := hide (bthen BR.out hb2)
            clear hb2
            go_wp2_with fail
            go_ret
            exact ⟨ret_bool HN.out.symm, bthen BASE.out B2.out⟩
          · have CM := hide (fun W => Cm.refMay_is s.del[k].1 s.del[k].2 true hm W)
            have HMk := hide hm
            clear hm
            generalize hy : s.del[k] = y at i0 i1 CM
            clear hy
            subst e1
            go_wp2_with fail
            refine (CM.out _).mono ?_
            rintro e w2 ⟨rfl, hb2⟩
            have B2 := hide (bthen BR.out hb2)
            clear hb2
            go_wp2_with fail
            refine ⟨⟨k + 1, by go_num, hlt, hide fun j hj hjk => ?_, B2.out⟩, by simp [intOf]; omega⟩
            rcases Nat.lt_or_ge j k with h | h
            · exact HALL.out j hj h
            · obtain rfl : j = k := by omega
              exact HMk.out
        · have hnl : ¬ (k : Int) < (s.del.length : Int) := by omega
          have HF : Hid (∀ c ∈ s.del, Cm.Co.may c = true) := fun c hc => by obtain ⟨j, hj, rfl⟩ := List.mem_iff_getElem.1 hc; exact HALL.out j hj (by omega)
          go_wp2_with fail
          have CP := hide (refMay_is pr cr s.pre r (by rw [← HR.out]; exact yes_all HC.out HF0.out HF.out) wr (Is.slot_below (Is.slot_below LS0.out.2.2 B5.out) BR.out) (by omega))
          refine CP.out.mono ?_
          rintro e w9 ⟨rfl, hw9⟩
          subst w9
          go_wp2_with fail
          go_ret
          exact ⟨rfl, bthen BASE.out BR.out⟩
end Go.Proofs.YtpkikfojiibdaaaGreatDoor
