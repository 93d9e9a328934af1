import Derived.Test.YtpkikfojiibdaaaGreatDoorAK9
import Derived.Test.YtpkikfojiibdaaaGreatDoorM2
/- The program's numbers with blanks between, and names of origins. -/
namespace Go.Proofs.YtpkikfojiibdaaaGreatDoor
open Go.RowKit Go.Sort

theorem itoaW_is (n : Int) (t : ByteArray) (h0 : 0 ≤ n) (h1 : n ≤ 4294967295) (ht : t = ⟨(Lib.itoa n).toArray⟩) (w : World) (h : Tab w) :
    Calls Tryz.prog 40 #[.int .i64 n] w fun e w' => e = .returned (.string t) ∧ Below w.heap.size w w' := by
  subst ht
  refine (Tryz.strconv_Itoa n (by omega) (by omega) w h).mono ?_
  rintro e w' ⟨rfl, k, os, rfl⟩
  exact ⟨rfl, (show Grows w _ from ⟨k, os, rfl⟩).below⟩
theorem origin_is (o : Int) (t : ByteArray) (ht : t = ⟨(At.name o).toArray⟩) (w : World) :
    Calls Tryz.prog 41 #[.int .i64 o] w fun e w' => e = .returned (.string t) ∧ Below w.heap.size w w' := by
  unfold At.name at ht
  by_cases h0 : o = 0
  · rw [if_pos h0] at ht
    subst ht h0
    go_enter Tryz.func41, Tryz.ntmps41
    go_wp2_with fail
    go_ret
    exact ⟨rfl, brefl w⟩
  · rw [if_neg h0] at ht
    have h0' : (o == 0) = false := by simpa using h0
    by_cases h1 : o = 1
    · rw [if_pos h1] at ht
      subst ht h1
      go_enter Tryz.func41, Tryz.ntmps41
      go_wp2_with fail
      go_ret
      exact ⟨rfl, brefl w⟩
    · rw [if_neg h1] at ht
      have h1' : (o == 1) = false := by simpa using h1
      subst ht
      go_enter Tryz.func41, Tryz.ntmps41
      go_wp2_with fail
      go_ret
      exact ⟨rfl, brefl w⟩
set_option maxHeartbeats 4000000 in
set_option maxRecDepth 100000 in
theorem numbers_is (ao : Option Addr) (ca : Nat) (l : List Int) (r : ByteArray) (hr : Hid (r = ⟨(Lib.join (l.map Lib.itoa) [32]).toArray⟩)) (w : World) (hA : Is.slot w ao l) (hs : Is.may l = true) (hT : Tab w) :
    Calls Tryz.prog 44 #[.slice ao l.length ca] w fun e w' => e = .returned (.string r) ∧ Below w.heap.size w w' := by
  obtain ⟨hl16, hall⟩ := (Is.may_iff l).1 hs
  have HALL := hide hall
  have HJL : Hid ((Lib.join (l.map Lib.itoa) [32]).length ≤ 352) := by
    have h := Is.joinTo_len l hs l.length (Nat.le_refl _)
    unfold Is.joinTo at h
    rw [List.take_length] at h
    show _ ≤ _
    omega
  have HA := hide hA
  have HT := hide hT
  clear hA hs hT hall
  go_enter Tryz.func44, Tryz.ntmps44
  have B1 := hide (brefl w)
  obtain ⟨i0, hi, hz0, hz1, hz2⟩ := info_partsS
  obtain ⟨w2, hmk, hown, hgr⟩ := run_make_own w w.heap.size 72 9 i0 _ 1 Tryz.underlying72 hi hz0 hz1 .i64 .i64 l.length (by rw [hz2]; omega) (by unfold maxLen; omega) B1.out.size
  have B2 := hide (Below.grown B1.out hgr B1.out.size (fun k hk => by cases hk))
  have HO := hide hown
  clear hi hz0 hz1 hz2 hown hgr
  go_wp2_with fail
  go_loopw [3, 11] (fun v3 v11 wr => ∃ (k : Nat) (o : Option Addr) (c : Nat), v11 = .int .i64 k ∧ v3 = .slice o k c ∧ k ≤ l.length ∧ wr.ownsRow w.heap.size 9 1 (.slice o k c) k ((l.take k).map Is.txS) ∧ Below w.heap.size w wr) (fun _ v11 _ => l.length - (intOf v11).toNat)
  case atStart => exact ⟨0, _, _, rfl, rfl, Nat.zero_le _, HO.out, B2.out⟩
  case round =>
    clear HO B2
    obtain ⟨k, o, c, rfl, rfl, hk, hown, hbr⟩ := hrel
    have HO := hide hown
    have HBR := hide hbr
    clear hown hbr
    by_cases hkl : k < l.length
    · have hkl' : (k : Int) < (l.length : Int) := by omega
      obtain ⟨b, off, rfl, hrd⟩ := Is.slot_at HA.out hkl
      have e0 := Is.reads_below hrd HBR.out k hkl
      clear hrd
      have HN : Hid ((l.take (k + 1)).map Is.txS = (l.take k).map Is.txS ++ [.string ⟨(Lib.itoa l[k]).toArray⟩]) := by
        show _ = _
        rw [List.take_succ_eq_append_getElem hkl, List.map_append]
        rfl
      have has := (Is.as_iff _).1 (HALL.out k hkl)
      generalize (l.take k).map Is.txS = XS at HO HN
      generalize hXN : (l.take (k + 1)).map Is.txS = XN at HN
      have HXN := hide hXN
      clear hXN
      generalize l[k] = y at *
      obtain ⟨t, ht⟩ : ∃ t : ByteArray, t = ⟨(Lib.itoa y).toArray⟩ := ⟨_, rfl⟩
      rw [← ht] at HN
      have CI := hide (fun W (hW : Below w.heap.size w W) => itoa_is y t (by omega) (by omega) ht W (HT.out.on hW))
      clear ht has
      go_wp2_with fail
      refine (CI.out _ HBR.out).mono ?_
      rintro e w3 ⟨rfl, hb3⟩
      have B3 := hide (bthen HBR.out hb3)
      have HO3 := hide (row_below HO.out hb3)
      clear hb3 HBR HO CI e0
      go_wp2_with (at_builtin; go_must (refine append_str (w0 := w) rfl _ _ rfl _ k _ rfl (HO3.out.alloc _) w3.heap.size 1 t rfl ?c1 (by omega) (balloc B3.out _) ?_))
      case c1 => simp
      intro v' w4 hnew hb4
      obtain ⟨no, nc, rfl⟩ := row_slice hnew
      rw [← HN.out] at hnew
      have HNW := hide hnew
      have B4 := hide hb4
      clear hnew hb4
      go_wp2_with fail
      refine ⟨⟨k + 1, no, nc, by go_num, rfl, by omega, ?_, B4.out⟩, by simp [intOf] <;> omega⟩
      rw [HXN.out]
      exact HNW.out
    · have hkl' : ¬ (k : Int) < (l.length : Int) := by omega
      obtain rfl : k = l.length := by omega
      rw [List.take_length] at HO
      have hj : Hid (((l.map fun c => (⟨(Lib.itoa c).toArray⟩ : ByteArray)).map (·.data.toList)) = l.map Lib.itoa) := by
        show _ = _
        rw [List.map_map]
        exact List.map_congr_left fun c _ => by simp
      have hjl := HJL.out
      rcases Nat.eq_zero_or_pos l.length with h0 | h0
      · have hl0 : l = [] := List.length_eq_zero_iff.1 h0
        subst hl0
        clear HO
        go_wp2_with fail
        refine (Tryz.strings_Join_none _ _ _ _).mono ?_
        rintro e w3 ⟨rfl, rfl⟩
        go_wp2_with fail
        go_ret
        exact ⟨by rw [hr.out]; rfl, HBR.out⟩
      · obtain ⟨g, hgo, hgc⟩ : ∃ g, o = some ⟨g, 0, none⟩ ∧ l.length ≤ c := by
          rcases HO.out.2 with ⟨hv, h1⟩ | ⟨g, cap, cur, hv, hbg, hg, hnc, _⟩
          · omega
          · simp only [Value.slice.injEq] at hv
            exact ⟨g, hv.1, by rw [hv.2.2]; exact hnc⟩
        subst hgo
        have hcl : ∀ (j : Nat) x, (l.map fun c => (⟨(Lib.itoa c).toArray⟩ : ByteArray))[j]? = some x → wr.cell? ⟨g, 0 + j, none⟩ = some (.string x) := by
          intro j x hx
          have hjl : j < l.length := by have := (List.getElem?_eq_some_iff.1 hx).1; simpa using this
          rw [Nat.zero_add, HO.out.cellAt j (by omega)]
          rw [List.getElem?_map] at hx ⊢
          cases hlj : l[j]? with
          | none => rw [hlj] at hx; cases hx
          | some y =>
            rw [hlj] at hx
            simp only [Option.map_some, Option.some.injEq] at hx ⊢
            rw [← hx]
            rfl
        have CJ := Tryz.strings_Join g 0 c (l.map fun c => (⟨(Lib.itoa c).toArray⟩ : ByteArray)) ⟨#[32]⟩ wr hcl (by have := HO.out.lt g rfl; omega) (by simp; omega) (by simpa using hgc) (by rw [hj.out]; show (Lib.join _ [32]).length ≤ _; omega)
        rw [hj.out, List.length_map, show (⟨#[32]⟩ : ByteArray).data.toList = [32] from rfl, ← hr.out] at CJ
        have CJH := hide CJ
        clear CJ hcl
        go_wp2_with fail
        refine CJH.out.mono ?_
        rintro e w3 ⟨rfl, hb3⟩
        have B3 := hide (bthen HBR.out hb3)
        clear hb3 CJH
        go_wp2_with fail
        go_ret
        exact ⟨rfl, B3.out⟩
end Go.Proofs.YtpkikfojiibdaaaGreatDoor
