/- The contract of the document's Add. -/
import Derived.Test.YtgebfgjeckdngaaDoorY3
namespace Go.Proofs.YtgebfgjeckdngaaDoor
open Go.RowKit Go.Sort Go.Lib

theorem Co.any_not {m : List Co.C} (h : ∀ j (hj : j < m.length), Co.may m[j] = true) : (m.any fun x => !Co.may x) = false := by
  rw [List.any_eq_false]
  intro x hx
  obtain ⟨j, hj, rfl⟩ := List.getElem_of_mem hx
  rw [h j hj]; decide
theorem Co.any_at {m : List Co.C} (k : Nat) (hk : k < m.length) (h : Co.may m[k] = false) : (m.any fun x => !Co.may x) = true := by
  rw [List.any_eq_true]
  exact ⟨m[k], List.getElem_mem hk, by rw [h]; rfl⟩

set_option maxHeartbeats 4000000 in
theorem refAdd_bad2 (ao bo : Option Addr) (ca cb : Nat) (l m : List Co.C) (w : World) (hA : Co.slot w ao l) (hM : Co.slot w bo m) (hs : Co.set l = true) (hm : (m.any fun x => !Co.may x) = true) (hlm : m.length ≤ 200) :
    Calls Tryd.prog 29 #[.slice ao l.length ca, .slice bo m.length cb] w fun e w' => e = .returned (.tuple #[.slice none 0 0, .int .i64 1]) ∧ Below w.heap.size w w' := by
  have hl8 : l.length ≤ 8 := ((Co.set_iff l).1 hs).1
  have HA := hide hA
  have HM := hide hM
  have HS := hide hs
  have HAN := hide hm
  clear hA hM hs hm
  go_enter Tryd.func29, Tryd.ntmps29
  go_wp2_with fail
  refine (refSet_is ao ca l true HS.out _ HA.out (by omega)).mono ?_
  rintro e w1 ⟨rfl, hb1⟩
  have B1 := hide hb1
  clear hb1
  go_wp2_with fail
  go_loopw [6] (fun v wr => ∃ k : Nat, v = .int .i64 k ∧ k ≤ m.length ∧ (∀ j (hj : j < m.length), j < k → Co.may m[j] = true) ∧ Below w.heap.size w wr) (fun v _ => m.length - (intOf v).toNat)
  case atStart => exact ⟨0, rfl, Nat.zero_le _, fun j _ hj => absurd hj (Nat.not_lt_zero _), B1.out⟩
  case round =>
    obtain ⟨k, rfl, hk, hall, hbr⟩ := hrel
    have HALL := hide hall
    have HBR := hide hbr
    clear hall hbr
    by_cases hkl : k < m.length
    · have hkl' : (k : Int) < (m.length : Int) := by omega
      obtain ⟨b, off, rfl, hrd⟩ := Co.slot_at HM.out hkl
      obtain ⟨e0, e1⟩ := Co.reads_at (Co.reads_below hrd HBR.out) k hkl
      clear hrd
      have HST : Hid (Co.may m[k] = true → ∀ j (hj : j < m.length), j < k + 1 → Co.may m[j] = true) := by
        show _ → _
        intro h j hj hjk
        rcases Nat.lt_succ_iff_lt_or_eq.1 hjk with h1 | rfl
        · exact HALL.out j hj h1
        · exact h
      generalize m[k] = u at e0 e1 HST
      obtain ⟨u0, u1⟩ := u
      cases hmu : Co.may (u0, u1)
      · have HMU := hide hmu
        go_wp2_with fail
        refine (refMay_is _ _ _ HMU.out _).mono ?_
        rintro e w2 ⟨rfl, hb2⟩
        have B2 := hide (bthen HBR.out hb2)
        clear hb2 e0 e1
        go_wp2_with fail
        exact bodyPost_ret (v := .tuple #[.slice none 0 0, .int .i64 1]) (by simp [results, Tryd.results29, go_sem]) rfl ⟨rfl, B2.out⟩
      · have HMU := hide hmu
        go_wp2_with fail
        refine (refMay_is _ _ _ HMU.out _).mono ?_
        rintro e w2 ⟨rfl, hb2⟩
        have B2 := hide (bthen HBR.out hb2)
        clear hb2 e0 e1
        go_wp2_with fail
        exact ⟨⟨k + 1, by go_num, by omega, HST.out HMU.out, B2.out⟩, by simp [intOf] <;> omega⟩
    · exfalso
      have := Co.any_not (m := m) fun j hj => HALL.out j hj (by omega)
      have h2 := HAN.out
      rw [this] at h2
      cases h2

set_option maxHeartbeats 8000000 in
set_option maxRecDepth 100000 in
theorem refAdd_good (ao bo : Option Addr) (ca cb : Nat) (l m : List Co.C) (w : World) (hA : Co.sl w ao ca l) (hM : Co.slot w bo m) (hs : Co.set l = true) (hm : (m.any fun x => !Co.may x) = false) (hlm : m.length ≤ 200) :
    Calls Tryd.prog 29 #[.slice ao l.length ca, .slice bo m.length cb] w (RefAddGood w ao l m) := by
  have hl8 : l.length ≤ 8 := ((Co.set_iff l).1 hs).1
  have HA := hide hA
  have HM := hide hM
  have HS := hide hs
  have HAN := hide hm
  have HU0 : Hid (Co.uni l (m.take 0) l) := ⟨Co.rises_set hs, fun c => by simp⟩
  clear hA hM hs hm
  go_enter Tryd.func29, Tryd.ntmps29
  go_wp2_with fail
  refine (refSet_is ao ca l true HS.out _ HA.out.1 (by omega)).mono ?_
  rintro e w1 ⟨rfl, hb1⟩
  have B1 := hide hb1
  clear hb1
  go_wp2_with fail
  go_loopw [6] (fun v wr => ∃ k : Nat, v = .int .i64 k ∧ k ≤ m.length ∧ Below w.heap.size w wr) (fun v _ => m.length - (intOf v).toNat)
  case atStart => exact ⟨0, rfl, Nat.zero_le _, B1.out⟩
  case round =>
    clear B1
    obtain ⟨k, rfl, hk, hbr⟩ := hrel
    have HBR := hide hbr
    clear hbr
    by_cases hkl : k < m.length
    · have hkl' : (k : Int) < (m.length : Int) := by omega
      obtain ⟨b, off, rfl, hrd⟩ := Co.slot_at HM.out hkl
      obtain ⟨e0, e1⟩ := Co.reads_at (Co.reads_below hrd HBR.out) k hkl
      clear hrd
      have HMU : Hid (Co.may m[k] = true) := by
        show _ = _
        cases h : Co.may m[k]
        · have := Co.any_at k hkl h
          rw [HAN.out] at this; cases this
        · rfl
      generalize m[k] = u at e0 e1 HMU
      obtain ⟨u0, u1⟩ := u
      go_wp2_with fail
      refine (refMay_is _ _ _ HMU.out _).mono ?_
      rintro e w2 ⟨rfl, hb2⟩
      have B2 := hide (bthen HBR.out hb2)
      clear hb2 e0 e1
      go_wp2_with fail
      exact ⟨⟨k + 1, by go_num, by omega, B2.out⟩, by simp [intOf] <;> omega⟩
    · have hkl' : ¬ (k : Int) < (m.length : Int) := by omega
      go_wp2_with fail
      go_loopw [0, 7] (fun v0 v7 wq => ∃ (q : Nat) (o : Option Addr) (n : Nat) (y : List Co.C), v7 = .int .i64 q ∧ v0 = .slice o y.length n ∧ q ≤ m.length ∧ Co.uni l (m.take q) y ∧ Co.sl wq o n y ∧ Co.blk w ao o ∧ y.length ≤ 8 + q ∧ Below w.heap.size w wq) (fun _ v7 _ => m.length - (intOf v7).toNat)
      case atStart => exact ⟨0, ao, ca, l, rfl, rfl, Nat.zero_le _, HU0.out, Co.sl_below HA.out HBR.out, .inl rfl, by omega, HBR.out⟩
      case round =>
        clear HBR HU0
        obtain ⟨q, o, n, y, rfl, rfl, hq, hu, hsl, hbk, hyl, hbr⟩ := hrel
        have HU := hide hu
        have HSL := hide hsl
        have HBK := hide hbk
        have HBR := hide hbr
        clear hu hsl hbk hbr
        by_cases hql : q < m.length
        · have hql' : (q : Int) < (m.length : Int) := by omega
          obtain ⟨b, off, rfl, hrd⟩ := Co.slot_at HM.out hql
          obtain ⟨e0, e1⟩ := Co.reads_at (Co.reads_below hrd HBR.out) q hql
          clear hrd
          have HST : Hid (∀ z, Co.uni y [m[q]] z → Co.uni l (m.take (q + 1)) z) := fun z hz => Co.uni_step hql HU.out hz
          generalize m[q] = u at e0 e1 HST
          obtain ⟨u0, u1⟩ := u
          have CW := hide (refWith_is o n y u0 u1 wr HSL.out HU.out.1 (by omega))
          go_wp2_with fail
          refine CW.out.mono ?_
          rintro e w2 ⟨o2, n2, z, rfl, hz, hsl2, hbk2, hzl, hb2⟩
          have B2 := hide (bthen HBR.out hb2)
          have HZ := hide (HST.out z hz)
          have HS2 := hide hsl2
          have HB2 : Hid (Co.blk w ao o2) := by
            rcases hbk2 with h | h
            · rw [h]; exact HBK.out
            · exact .inr fun ad had => Nat.le_trans HBR.out.size (h ad had)
          clear hb2 hz hsl2 hbk2 e0 e1 CW
          go_wp2_with fail
          exact ⟨⟨q + 1, o2, n2, z, by go_num, rfl, by omega, HZ.out, HS2.out, HB2.out, by omega, B2.out⟩, by simp [intOf] <;> omega⟩
        · have hql' : ¬ (q : Int) < (m.length : Int) := by omega
          obtain rfl : q = m.length := by omega
          rw [List.take_length] at HU
          by_cases hy8 : y.length ≤ 8
          · have hy8' : ¬ (8 : Int) < (y.length : Int) := by omega
            go_wp2_with fail
            exact bodyPost_ret (v := .tuple #[.slice o y.length n, .int .i64 0]) (by simp [results, Tryd.results29, go_sem]) rfl ⟨y, o, n, HU.out, HSL.out.1, HBK.out, HBR.out, .inl ⟨hy8, rfl⟩⟩
          · have hy8' : (8 : Int) < (y.length : Int) := by omega
            go_wp2_with fail
            exact bodyPost_ret (v := .tuple #[.slice none 0 0, .int .i64 2]) (by simp [results, Tryd.results29, go_sem]) rfl ⟨y, o, n, HU.out, HSL.out.1, HBK.out, HBR.out, .inr ⟨by omega, rfl⟩⟩
end Go.Proofs.YtgebfgjeckdngaaDoor
