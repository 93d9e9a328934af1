/- The contracts of comm's Both and of the document's Keep. -/
import Derived.Test.YtgebfgjeckdngaaDoorB3
import Derived.Test.YtgebfgjeckdngaaDoorL1
namespace Go.Proofs.YtgebfgjeckdngaaDoor
open Go.RowKit Go.Sort Go.Lib

set_option maxHeartbeats 2000000 in
theorem both_bad1 (ao bo : Option Addr) (ca cb n : Nat) (l : List Co.C) (w : World) (hA : Co.slot w ao l) (hs : Co.set l = false) :
    Calls Tryd.prog 32 #[.slice ao l.length ca, .slice bo n cb] w fun e w' => e = .returned (.tuple #[.slice none 0 0, .int .i64 1]) ∧ Below w.heap.size w w' := by
  have HA := hide (Co.slot_below hA (balloc (brefl w) (.cells #[.slice bo n cb] 32)))
  have HS := hide hs
  clear hA hs
  go_enter Tryd.func32, Tryd.ntmps32
  go_wp2_with fail
  refine (set_is ao ca l false HS.out _ HA.out).mono ?_
  rintro e w1 ⟨rfl, hb1⟩
  go_wp2_with fail
  exact bodyPost_ret (v := .tuple #[.slice none 0 0, .int .i64 1]) (by simp [results, Tryd.results32, go_sem]) rfl ⟨rfl, bthen (balloc (brefl w) _) hb1⟩

set_option maxHeartbeats 2000000 in
theorem both_bad2 (ao bo : Option Addr) (ca cb : Nat) (l m : List Co.C) (w : World) (hA : Co.slot w ao l) (hM : Co.slot w bo m) (hs : Co.set l = true) (hs2 : Co.set m = false) :
    Calls Tryd.prog 32 #[.slice ao l.length ca, .slice bo m.length cb] w fun e w' => e = .returned (.tuple #[.slice none 0 0, .int .i64 1]) ∧ Below w.heap.size w w' := by
  have B0 := hide (balloc (brefl w) (.cells #[.slice bo m.length cb] 32))
  have HA := hide (Co.slot_below hA B0.out)
  have HM := hide (Co.slot_below hM B0.out)
  have HS := hide hs
  have HS2 := hide hs2
  have K0 := hide (show (w.alloc (.cells #[.slice bo m.length cb] 32)).cell? ⟨w.heap.size, 0, none⟩ = some (.slice bo m.length cb) by simp)
  clear hA hM hs hs2
  go_enter Tryd.func32, Tryd.ntmps32
  go_wp2_with fail
  generalize w.alloc (.cells #[.slice bo m.length cb] 32) = W0 at *
  generalize w.heap.size = R at K0 ⊢
  refine (set_is ao ca l true HS.out _ HA.out).mono ?_
  rintro e w1 ⟨rfl, hb1⟩
  have HM1 := hide (Co.slot_below HM.out hb1)
  have K1 := (hb1.cell (p := ⟨R, 0, none⟩) (block_lt_of_cell K0.out)).trans K0.out
  have B1 := hide (bthen B0.out hb1)
  clear hb1 K0
  go_wp2_with fail
  refine (set_is bo cb m false HS2.out _ HM1.out).mono ?_
  rintro e w2 ⟨rfl, hb2⟩
  go_wp2_with fail
  exact bodyPost_ret (v := .tuple #[.slice none 0 0, .int .i64 1]) (by simp [results, Tryd.results32, go_sem]) rfl ⟨rfl, bthen B1.out hb2⟩

set_option maxHeartbeats 4000000 in
theorem both_good (ao bo : Option Addr) (ca cb : Nat) (l m x : List Co.C) (hx : x = l.filter fun c => !!Co.inL m c) (w : World) (hA : Co.slot w ao l) (hM : Co.slot w bo m) (hC : Co.came ao ca) (hs : Co.set l = true) (hs2 : Co.set m = true) :
    Calls Tryd.prog 32 #[.slice ao l.length ca, .slice bo m.length cb] w (DelGood w x) := by
  have hl8 : l.length ≤ 8 := ((Co.set_iff l).1 hs).1
  have hm8 : m.length ≤ 8 := ((Co.set_iff m).1 hs2).1
  have B0 := hide (balloc (brefl w) (.cells #[.slice bo m.length cb] 32))
  have HA := hide (Co.slot_below hA B0.out)
  have HM := hide (Co.slot_below hM B0.out)
  have HS := hide hs
  have HS2 := hide hs2
  have HC := hide hC
  have HX := hide hx
  have K0 := hide (show (w.alloc (.cells #[.slice bo m.length cb] 32)).cell? ⟨w.heap.size, 0, none⟩ = some (.slice bo m.length cb) by simp)
  clear hA hM hs hs2 hC hx
  go_enter Tryd.func32, Tryd.ntmps32
  go_wp2_with fail
  generalize w.alloc (.cells #[.slice bo m.length cb] 32) = W0 at *
  generalize hR : w.heap.size = R at K0 ⊢
  have HR := hide hR
  clear hR
  refine (set_is ao ca l true HS.out _ HA.out).mono ?_
  rintro e w1 ⟨rfl, hb1⟩
  have HA1 := hide (Co.slot_below HA.out hb1)
  have HM1 := hide (Co.slot_below HM.out hb1)
  have k1 := (hb1.cell (p := ⟨R, 0, none⟩) (block_lt_of_cell K0.out)).trans K0.out
  have B1 := hide (bthen B0.out hb1)
  clear hb1 HA HM K0
  go_wp2_with fail
  refine (set_is bo cb m true HS2.out _ HM1.out).mono ?_
  rintro e w2 ⟨rfl, hb2⟩
  have HA2 := hide (Co.slot_below HA1.out hb2)
  have HM2 := hide (Co.slot_below HM1.out hb2)
  have K2 := hide ((hb2.cell (p := ⟨R, 0, none⟩) (block_lt_of_cell k1)).trans k1)
  have B2 := hide (bthen B1.out hb2)
  clear hb2 HA1 HM1 k1
  go_wp2_with fail
  refine (clone_is ao ca l _ HA2.out HC.out (by omega)).mono ?_
  rintro e w3 ⟨o, c, rfl, hown, hb3⟩
  have CD := hide (delF_own 55 R (enters_of Tryd.func55 (by kernel_rfl) rfl) (fun c => !Co.inL m c) w2.heap.size o c l x HX.out w3 (asks55 R cb bo m w2 w3 hb3 K2.out HM2.out (by omega)) hown (by omega))
  have B3 := hide (bthen B2.out hb3)
  have HZ : Hid (w.heap.size ≤ w2.heap.size) := B2.out.size
  clear hown hb3
  go_wp2_with fail
  refine CD.out.mono ?_
  rintro e w4 ⟨xo, xc, rfl, hcx, hwr, hb4⟩
  have HCX := hide hcx
  have HW : Hid (Co.wrow w.heap.size w4 xo x) := by
    rcases hwr with h | ⟨g, h1, h2, h3⟩
    · exact .inl h
    · exact .inr ⟨g, h1, Nat.le_trans HZ.out h2, h3⟩
  have B4 := hide (B3.out.trans (hb4.mono HZ.out))
  clear hcx hwr hb4 CD
  go_wp2_with fail
  exact bodyPost_ret (v := .tuple #[.slice xo x.length xc, .int .i64 0]) (by simp [results, Tryd.results32, go_sem]) rfl ⟨xo, xc, rfl, HCX.out, HW.out, B4.out⟩

/-- The rows that the document's functions make. -/
def KeepGood (w : World) (x : List Co.C) (e : Ending) (w' : World) : Prop := ∃ (o : Option Addr) (c : Nat), e = .returned (.slice o x.length c) ∧ w'.ownsRow w.heap.size 23 2 (.slice o x.length c) x.length (Co.cells x) ∧ Below w.heap.size w w'

theorem Co.filt_succ (q : Co.C → Bool) (l : List Co.C) (k : Nat) (h : k < l.length) : (l.take (k + 1)).filter q = (l.take k).filter q ++ (if q l[k] = true then [l[k]] else []) := by
  rw [List.take_succ_eq_append_getElem h, List.filter_append]
  congr 1
  cases hq : q l[k] <;> simp [hq]

set_option maxHeartbeats 4000000 in
theorem refKeep_is (ao bo : Option Addr) (ca cb : Nat) (l m x : List Co.C) (t : Bool) (hx : x = l.filter fun c => Co.inL m c == t) (w : World) (hA : Co.slot w ao l) (hM : Co.slot w bo m) (hll : l.length ≤ 200) (hlm : m.length ≤ 200) :
    Calls Tryd.prog 33 #[.slice ao l.length ca, .slice bo m.length cb, .bool t] w (KeepGood w x) := by
  have HA := hide hA
  have HM := hide hM
  have HX := hide hx
  clear hA hM hx
  go_enter Tryd.func33, Tryd.ntmps33
  go_wp2_with fail
  go_loopw [7, 8] (fun v7 v8 wr => ∃ (k : Nat) (o : Option Addr) (c n : Nat) (y : List Co.C), v8 = .int .i64 k ∧ v7 = .slice o n c ∧ k ≤ l.length ∧ n ≤ k ∧ Hid (y = (l.take k).filter fun c => Co.inL m c == t) ∧ wr.ownsRow w.heap.size 23 2 (.slice o n c) n (Co.cells y) ∧ Below w.heap.size w wr) (fun _ v8 _ => l.length - (intOf v8).toNat)
  case atStart => exact ⟨0, none, 0, 0, [], rfl, rfl, Nat.zero_le _, Nat.le_refl _, rfl, World.ownsRow_nil _ _ _ _, brefl w⟩
  case round =>
    obtain ⟨k, o, c, n, y, rfl, rfl, hk, hnk, HY, hown, hbr⟩ := hrel
    have HO := hide hown
    have HBR := hide hbr
    clear hown hbr
    by_cases hkl : k < l.length
    · have hkl' : (k : Int) < (l.length : Int) := by omega
      obtain ⟨b, off, rfl, hrd⟩ := Co.slot_at HA.out hkl
      have RD := hide hrd
      obtain ⟨e0, e1⟩ := Co.reads_at (Co.reads_below hrd HBR.out) k hkl
      clear hrd
      have HN := hide (Co.filt_succ (fun c => Co.inL m c == t) l k hkl)
      have RK := hide (fun W (hW : Below w.heap.size w W) => Co.reads_at (Co.reads_below RD.out hW) k hkl)
      generalize l[k] = u at *
      obtain ⟨u0, u1⟩ := u
      obtain ⟨i, hi⟩ : ∃ i, Co.inL m (u0, u1) = i := ⟨_, rfl⟩
      simp only [hi] at HN
      have HI := hide hi
      clear hi
      cases hit : (i == t)
      · rw [hit] at HN
        go_wp2_with fail
        refine (refIn_is bo cb m u0 u1 i HI.out _ (Co.slot_below HM.out HBR.out) (by omega)).mono ?_
        rintro e w1 ⟨rfl, hb1⟩
        have HO1 := hide (row_below HO.out hb1)
        have B1 := hide (bthen HBR.out hb1)
        clear hb1 e0 e1
        go_wp2_with fail
        refine ⟨⟨k + 1, o, c, n, y, by go_num, rfl, by omega, by omega, ?_, HO1.out, B1.out⟩, by simp [intOf] <;> omega⟩
        show _ = _
        rw [HN.out, ← HY.out]
        simp
      · rw [hit] at HN
        go_wp2_with fail
        refine (refIn_is bo cb m u0 u1 i HI.out _ (Co.slot_below HM.out HBR.out) (by omega)).mono ?_
        rintro e w1 ⟨rfl, hb1⟩
        have HO1 := hide (row_below HO.out hb1)
        have B1 := hide (bthen HBR.out hb1)
        clear hb1 e0 e1
        obtain ⟨f0, f1⟩ := RK.out _ B1.out
        go_wp2_with (at_builtin; go_must (refine append_list (w0 := w) rfl _ _ rfl _ n y rfl (HO1.out.alloc _) (some ⟨w1.heap.size, 0, none⟩) 1 [(u0, u1)] rfl (Co.slot_one _ _ _ _ (two_new w1 u0 u1 23)) (came_some _ _ _) (by simp; omega) (balloc B1.out _) ?_))
        intro v' w2 hnew hb2
        obtain ⟨no, nc, rfl⟩ := row_slice hnew
        have HNW := hide hnew
        have B2 := hide hb2
        clear hnew hb2 f0 f1
        go_wp2_with fail
        refine ⟨⟨k + 1, no, nc, n + 1, y ++ [(u0, u1)], by go_num, rfl, by omega, by omega, ?_, HNW.out, B2.out⟩, by simp [intOf] <;> omega⟩
        show _ = _
        rw [HN.out, ← HY.out]
        simp
    · have hkl' : ¬ (k : Int) < (l.length : Int) := by omega
      obtain rfl : k = l.length := by omega
      have hyx : y = x := by rw [HX.out, HY.out, List.take_length]
      have HLN : Hid (n = x.length) := by
        have := Co.own_len HO.out
        rw [hyx] at this
        exact this
      have HOX : Hid (wr.ownsRow w.heap.size 23 2 (.slice o x.length c) x.length (Co.cells x)) := by
        have := HO.out
        rw [hyx, HLN.out] at this
        exact this
      rw [HLN.out]
      clear hyx HO
      go_wp2_with fail
      exact bodyPost_ret (v := .slice o x.length c) (by simp [results, Tryd.results33, go_sem]) rfl ⟨o, c, rfl, HOX.out, HBR.out⟩
end Go.Proofs.YtgebfgjeckdngaaDoor
