import Derived.Test.YtpkikfojiibdaaaGreatDoorCB1
/- The contracts of comm's Both and of the document's Keep. -/
namespace Go.Proofs.YtpkikfojiibdaaaGreatDoor.Cm
open Go.RowKit Go.Sort Go.Lib

theorem Co.slot_one (W : World) (a b : Int) (g : Nat) (h : Two W g a b) : Co.slot W (some ⟨g, 0, none⟩) [(a, b)] := by
  refine .inr ⟨g, 0, rfl, fun j u hu => ?_⟩
  match j, hu with
  | 0, hu => simp [Co.cells, Co.enc] at hu; subst hu; exact h.1
  | 1, hu => simp [Co.cells, Co.enc] at hu; subst hu; exact h.2.1
  | j + 2, hu => simp [Co.cells, Co.enc] at hu
theorem came_some (g o c : Nat) : Co.came (some ⟨g, o, none⟩) c := ⟨fun h => (by cases h), fun ad h => (by cases h; rfl)⟩
/-- The rows that the document's functions make. -/
def KeepGood (w : World) (x : List Co.C) (e : Ending) (w' : World) : Prop := ∃ (o : Option Addr) (c : Nat), e = .returned (.slice o x.length c) ∧ w'.ownsRow w.heap.size 53 2 (.slice o x.length c) x.length (Co.cells x) ∧ Below w.heap.size w w'

theorem Co.filt_succ (q : Co.C → Bool) (l : List Co.C) (k : Nat) (h : k < l.length) : (l.take (k + 1)).filter q = (l.take k).filter q ++ (if q l[k] = true then [l[k]] else []) := by
  rw [List.take_succ_eq_append_getElem h, List.filter_append]
  congr 1
  cases hq : q l[k] <;> simp [hq]

set_option maxHeartbeats 4000000 in
theorem refKeep_is (ao bo : Option Addr) (ca cb : Nat) (l m x : List Co.C) (t : Bool) (hx : x = l.filter fun c => Co.inL m c == t) (w : World) (hA : Co.slot w ao l) (hM : Co.slot w bo m) (hll : l.length ≤ 200) (hlm : m.length ≤ 200) :
    Calls Tryz.prog 26 #[.slice ao l.length ca, .slice bo m.length cb, .bool t] w (KeepGood w x) := by
  have HA := hide hA
  have HM := hide hM
  have HX := hide hx
  clear hA hM hx
  go_enter Tryz.func26, Tryz.ntmps26
  go_wp2_with fail
  go_loopw [7, 8] (fun v7 v8 wr => ∃ (k : Nat) (o : Option Addr) (c n : Nat) (y : List Co.C), v8 = .int .i64 k ∧ v7 = .slice o n c ∧ k ≤ l.length ∧ n ≤ k ∧ Hid (y = (l.take k).filter fun c => Co.inL m c == t) ∧ wr.ownsRow w.heap.size 53 2 (.slice o n c) n (Co.cells y) ∧ Below w.heap.size w wr) (fun _ v8 _ => l.length - (intOf v8).toNat)
  case atStart => exact ⟨0, none, 0, 0, [], rfl, rfl, Nat.zero_le _, Nat.le_refl _, rfl, World.ownsRow_nil _ _ _ _, brefl w⟩
  case round =>
    obtain ⟨k, o, c, n, y, rfl, rfl, hk, hnk, HY, hown, hbr⟩ := hrel
    have HO := hide hown
    have HBR := hide hbr
    clear hown hbr
    by_cases hkl : k < l.length
    · have hkl' : (k : Int) < (l.length : Int) := by omega
      obtain ⟨b, off, rfl, hrd⟩ := Co.slot_at HA.out hkl
      have RD := hide hrd
      obtain ⟨e0, e1⟩ := Co.reads_at (Co.reads_below hrd HBR.out) k hkl
      clear hrd
      have HN := hide (Co.filt_succ (fun c => Co.inL m c == t) l k hkl)
      have RK := hide (fun W (hW : Below w.heap.size w W) => Co.reads_at (Co.reads_below RD.out hW) k hkl)
      generalize l[k] = u at *
      obtain ⟨u0, u1⟩ := u
      obtain ⟨i, hi⟩ : ∃ i, Co.inL m (u0, u1) = i := ⟨_, rfl⟩
      simp only [hi] at HN
      have HI := hide hi
      clear hi
      cases hit : (i == t)
      · rw [hit] at HN
        go_wp2_with fail
        refine (refIn_is bo cb m u0 u1 i HI.out _ (Co.slot_below HM.out HBR.out) (by omega)).mono ?_
        rintro e w1 ⟨rfl, hb1⟩
        have HO1 := hide (row_below HO.out hb1)
        have B1 := hide (bthen HBR.out hb1)
        clear hb1 e0 e1
        go_wp2_with fail
        refine ⟨⟨k + 1, o, c, n, y, by go_num, rfl, by omega, by omega, ?_, HO1.out, B1.out⟩, by simp [intOf] <;> omega⟩
        show _ = _
        rw [HN.out, ← HY.out]
        simp
      · rw [hit] at HN
        go_wp2_with fail
        refine (refIn_is bo cb m u0 u1 i HI.out _ (Co.slot_below HM.out HBR.out) (by omega)).mono ?_
        rintro e w1 ⟨rfl, hb1⟩
        have HO1 := hide (row_below HO.out hb1)
        have B1 := hide (bthen HBR.out hb1)
        clear hb1 e0 e1
        obtain ⟨f0, f1⟩ := RK.out _ B1.out
        go_wp2_with (at_builtin; go_must (refine append_list (w0 := w) rfl _ _ rfl _ n y rfl (HO1.out.alloc _) (some ⟨w1.heap.size, 0, none⟩) 1 [(u0, u1)] rfl (Co.slot_one _ _ _ _ (two_new w1 u0 u1 53)) (came_some _ _ _) (by simp; omega) (balloc B1.out _) ?_))
        intro v' w2 hnew hb2
        obtain ⟨no, nc, rfl⟩ := row_slice hnew
        have HNW := hide hnew
        have B2 := hide hb2
        clear hnew hb2 f0 f1
        go_wp2_with fail
        refine ⟨⟨k + 1, no, nc, n + 1, y ++ [(u0, u1)], by go_num, rfl, by omega, by omega, ?_, HNW.out, B2.out⟩, by simp [intOf] <;> omega⟩
        show _ = _
        rw [HN.out, ← HY.out]
        simp
    · have hkl' : ¬ (k : Int) < (l.length : Int) := by omega
      obtain rfl : k = l.length := by omega
      have hyx : y = x := by rw [HX.out, HY.out, List.take_length]
      have HLN : Hid (n = x.length) := by
        have := Co.own_len HO.out
        rw [hyx] at this
        exact this
      have HOX : Hid (wr.ownsRow w.heap.size 53 2 (.slice o x.length c) x.length (Co.cells x)) := by
        have := HO.out
        rw [hyx, HLN.out] at this
        exact this
      rw [HLN.out]
      clear hyx HO
      go_wp2_with fail
      exact bodyPost_ret (v := .slice o x.length c) (by simp [results, Tryz.results26, go_sem]) rfl ⟨o, c, rfl, HOX.out, HBR.out⟩
end Go.Proofs.YtpkikfojiibdaaaGreatDoor.Cm