/- The contract of slices.DeleteFunc at communities. -/
import Derived.Test.YtngfoijmknclhaaGreatDoorJ36
namespace Go.Proofs.YtngfoijmknclhaaGreatDoor.Cm
open Go.RowKit Go.Sort Go.Lib
/-- What is kept of the first j. -/
def Co.keptTo (p : Co.C → Bool) (d : Array Co.C) (j : Nat) : List Co.C := (d.toList.take j).filter fun c => !p c
/-- The loop's relation: j have been looked at; what is kept of them lies at the row's head; from place j on the row is as it was. -/
structure DelInv (p : Co.C → Bool) (d : Array Co.C) (j i : Nat) (dk : Array Co.C) : Prop where
  size : dk.size = d.size
  lt : i < j
  low : dk.toList.take i = Co.keptTo p d j
  high : ∀ q, j ≤ q → dk[q]! = d[q]!

theorem Co.kept_succ (p : Co.C → Bool) (d : Array Co.C) (j : Nat) (hj : j < d.size) : Co.keptTo p d (j + 1) = Co.keptTo p d j ++ (if p d[j]! = true then [] else [d[j]!]) := by
  unfold Co.keptTo
  rw [List.take_succ_eq_append_getElem (by simpa using hj), List.filter_append]
  congr 1
  rw [getElem!_pos d j hj]
  cases h : p d[j] <;> simp [h]
theorem DelInv.start {p : Co.C → Bool} {d : Array Co.C} {k : Nat} (hk : k < d.size) (hp : p d[k] = true) (hall : ∀ y ∈ d.toList.take k, p y = false) : DelInv p d (k + 1) k d where
  size := rfl
  lt := Nat.lt_succ_self _
  low := by
    rw [Co.kept_succ p d k hk, getElem!_pos d k hk, if_pos hp, List.append_nil]
    unfold Co.keptTo
    rw [List.filter_eq_self.2 (fun y hy => by rw [hall y hy]; rfl)]
  high := fun _ _ => rfl
theorem DelInv.skip {p : Co.C → Bool} {d dk : Array Co.C} {j i : Nat} (h : DelInv p d j i dk) (hj : j < d.size) (hp : p d[j]! = true) : DelInv p d (j + 1) i dk where
  size := h.size
  lt := by have := h.lt; omega
  low := by rw [Co.kept_succ p d j hj, if_pos hp, List.append_nil]; exact h.low
  high := fun q hq => h.high q (by omega)
theorem DelInv.keep {p : Co.C → Bool} {d dk : Array Co.C} {j i : Nat} (h : DelInv p d j i dk) (hj : j < d.size) (hp : p d[j]! = false) : DelInv p d (j + 1) (i + 1) (dk.setIfInBounds i d[j]!) where
  size := by simp [h.size]
  lt := by have := h.lt; omega
  low := by
    have hi : i < dk.size := by have := h.lt; have := h.size; omega
    rw [Co.kept_succ p d j hj, if_neg (by rw [hp]; decide), ← h.low]
    rw [Array.toList_setIfInBounds, List.take_succ_eq_append_getElem (by simpa using hi)]
    congr 1
    · rw [List.take_set_of_le (Nat.le_refl _)]
    · simp
  high := fun q hq => by rw [getElem!_set_other dk i q _ (by have := h.lt; omega)]; exact h.high q (by omega)

set_option maxHeartbeats 8000000 in
set_option maxRecDepth 100000 in
theorem delF_row (f BX : Nat) (eg : ∀ args w, (callFunc f args).run Tryz.prog w = .ok (.enter f args) w) (p : Co.C → Bool) (B g cap : Nat) (d : Array Co.C) (w : World) (hp : Asks f #[.pointer (some ⟨BX, 0, none⟩)] p B w) (hh : Co.holds w g d) (hB : B ≤ g) (hsz : d.size ≤ 100000) (hcap : d.size ≤ cap) (h0 : 0 < d.size) :
    Calls Tryz.prog 168 #[.slice (some ⟨g, 0, none⟩) d.size cap, .func (.func f) #[] #[.pointer (some ⟨BX, 0, none⟩)]] w fun e w' => e = .returned (.slice (some ⟨g, 0, none⟩) (d.toList.filter fun c => !p c).length cap) ∧ Co.holds w' g (d.toList.filter fun c => !p c).toArray ∧ Below B w w' := by
  have hgl : Hid (g < w.heap.size) := block_lt_of_cell (hh 0 h0).1
  have CI := hide (idxF_is f #[.pointer (some ⟨BX, 0, none⟩)] eg p B g cap d w hp hh (by have := hgl.out; omega) (by omega) h0)
  have HP := hide hp
  have HH := hide hh
  clear hp hh
  go_enter Tryz.func168, Tryz.ntmps168
  go_wp2_with fail
  refine CI.out.mono ?_
  rintro e w1 ⟨hcase, hb1⟩
  have B1 := hide (hb1.mono (show B ≤ w.heap.size by have := hgl.out; omega))
  have HH1 := hide (Co.holds_below HH.out hb1)
  clear hb1 CI
  rcases hcase with ⟨rfl, hall⟩ | ⟨k, hk, rfl, hpk, hall⟩
  · have hf : Hid ((d.toList.filter fun c => !p c) = d.toList) := List.filter_eq_self.2 (fun y hy => by rw [hall y hy]; rfl)
    have HL : Hid (d.size = (d.toList.filter fun c => !p c).length) := by show _ = _; rw [hf.out]; simp
    clear hall
    go_wp2_with fail
    go_ret
    refine ⟨?_, ?_, B1.out⟩
    · rw [← HL.out]; rfl
    · rw [hf.out]; simpa using HH1.out
  · have hst := hide (DelInv.start hk hpk hall)
    have hkn : ((k : Int) == -1) = false := by simp
    clear hpk hall
    go_wp2_with fail
    go_loopw [5, 6] (fun v5 v6 wr => ∃ (i j : Nat) (dk : Array Co.C), v5 = .int .i64 i ∧ v6 = .int .i64 j ∧ j ≤ d.size ∧ DelInv p d j i dk ∧ Co.holds wr g dk ∧ Below B w wr) (fun _ v6 _ => d.size - (intOf v6).toNat)
    case atStart => exact ⟨k, k + 1, d, rfl, by go_num, by omega, hst.out, HH1.out, B1.out⟩
    case round =>
      clear hst HH1 B1 hkn
      obtain ⟨i, j, dk, rfl, rfl, hj, hI, hho, hbr⟩ := hrel
      have hij := hI.lt
      have hds := hI.size
      have HI := hide hI
      have HO := hide hho
      have HBB := hide hbr
      clear hbr
      by_cases hjl : j < d.size
      · have hjl' : (j : Int) < (d.size : Int) := by omega
        have hil' : (i : Int) < (d.size : Int) := by omega
        obtain ⟨e0, e1, _, _⟩ := hho j (by omega)
        rw [hI.high j (Nat.le_refl _)] at e0 e1
        clear hho hI
        have HSK := hide (HI.out.skip hjl)
        have HKE := hide (HI.out.keep hjl)
        generalize d[j]! = u at *
        obtain ⟨u0, u1⟩ := u
        have CP : Hid (∀ W, Below B w W → Calls Tryz.prog f #[.agg #[.int .i64 u0, .int .i64 u1], .pointer (some ⟨BX, 0, none⟩)] W fun e w' => e = .returned (.bool (p (u0, u1))) ∧ Below W.heap.size W w') := by
          show ∀ W, _
          intro W hW
          have := HP.out W (u0, u1) hW
          simpa using this
        have hBw : B ≤ wr.heap.size := by have := HBB.out.size; have := hgl.out; omega
        have TB := hide (two_new wr u0 u1 39)
        have BA := hide (HBB.out.alloc hBw (.cells #[.int .i64 u0, .int .i64 u1] 39))
        have HOA := hide (Co.holds_below HO.out (balloc (brefl wr) (.cells #[.int .i64 u0, .int .i64 u1] 39)))
        have hBA : B ≤ (wr.alloc (.cells #[.int .i64 u0, .int .i64 u1] 39)).heap.size := by simp; omega
        cases hpu : p (u0, u1)
        · have HKN := hide (HKE.out hpu)
          rw [hpu] at CP
          clear hpu HSK HKE
          go_wp2_with fail
          generalize wr.alloc (.cells #[.int .i64 u0, .int .i64 u1] 39) = W1 at *
          generalize wr.heap.size = R at *
          refine (CP.out _ BA.out).mono ?_
          rintro e w2 ⟨rfl, hb2⟩
          obtain ⟨p0, p1, p2, p3⟩ := two_below hb2 TB.out
          have HO2 := Co.holds_below HOA.out hb2
          obtain ⟨c0, c1, c2, c3⟩ := HO2 i (by omega)
          have HOS := hide (Co.holds_set HO2 i (by omega) (u0, u1))
          have B2 := hide (BA.out.trans (hb2.mono hBA))
          clear hb2 HO2 e0 e1
          generalize dk[i]! = old2 at c0 c1
          go_wp2_with fail
          exact ⟨⟨i + 1, j + 1, dk.setIfInBounds i (u0, u1), by go_num, by go_num, by omega, HKN.out, HOS.out, (B2.out.setCell (p := ⟨g, i * 2, none⟩) hB _).setCell (p := ⟨g, i * 2 + 1, none⟩) hB _⟩, by simp [intOf] <;> omega⟩
        · have HKN := hide (HSK.out hpu)
          rw [hpu] at CP
          clear hpu HSK HKE
          go_wp2_with fail
          generalize wr.alloc (.cells #[.int .i64 u0, .int .i64 u1] 39) = W1 at *
          generalize wr.heap.size = R at *
          refine (CP.out _ BA.out).mono ?_
          rintro e w2 ⟨rfl, hb2⟩
          have HO2 := hide (Co.holds_below HOA.out hb2)
          have B2 := hide (BA.out.trans (hb2.mono hBA))
          clear hb2 e0 e1
          go_wp2_with fail
          exact ⟨⟨i, j + 1, dk, rfl, by go_num, by omega, HKN.out, HO2.out, B2.out⟩, by simp [intOf] <;> omega⟩
      · have hjE : j = d.size := by omega
        subst hjE
        have hjl' : ¬ (d.size : Int) < (d.size : Int) := by omega
        have hkl' : ¬ (d.size : Int) < (i : Int) := by omega
        obtain ⟨vs, hcl⟩ := clear_run (k := i) (n := d.size - i) (c := cap - i) HO.out (by omega) (by omega)
        have HE : Hid (dk.toList.take i = (d.toList.filter fun c => !p c) ∧ (d.toList.filter fun c => !p c).length = i) := by
          have h1 := HI.out.low
          have e : Co.keptTo p d d.size = d.toList.filter fun c => !p c := by unfold Co.keptTo; rw [List.take_of_length_le (by simp)]
          rw [e] at h1
          refine ⟨h1, ?_⟩
          rw [← h1, List.length_take, Array.length_toList]
          omega
        have HS := hide (holds_sets (vs := vs) HO.out (show i ≤ dk.size by omega))
        have BS := hide (below_sets hB vs (i * 2) _ HBB.out)
        clear hho hI
        go_wp2_with fail
        go_ret
        refine ⟨?_, ?_, BS.out⟩
        · rw [HE.out.2]; rfl
        · rw [← HE.out.1]; exact HS.out
end Go.Proofs.YtngfoijmknclhaaGreatDoor.Cm
