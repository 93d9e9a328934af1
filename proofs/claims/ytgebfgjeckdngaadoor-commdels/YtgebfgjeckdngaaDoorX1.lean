/- The law CommDels walked. -/
import Derived.Test.YtgebfgjeckdngaaDoorB4
import Derived.Test.YtgebfgjeckdngaaDoorO2
namespace Go.Proofs.YtgebfgjeckdngaaDoor
open Go.RowKit Go.Sort Go.Lib

set_option maxHeartbeats 4000000 in
theorem dels_long (ao bo : Option Addr) (ca cb na nb : Nat) (w : World) (hT : Tab w) (h : 200 < na ∨ (na ≤ 200 ∧ 200 < nb)) :
    Calls Tryd.prog 6 #[.slice ao na ca, .slice bo nb cb] w fun e w' => e = .returned (.bool true) ∧ Below w.heap.size w w' := by
  have HT := hide hT
  clear hT
  rcases h with h | ⟨h1, h⟩
  · have F1 := hide (fun W => few_is ao na ca false (by simp; omega) W)
    clear h
    go_enter Tryd.func6, Tryd.ntmps6
    go_wp2_with fail
    refine (F1.out _).mono ?_
    rintro e w1 ⟨rfl, rfl⟩
    go_wp2_with fail
    refine (lives_is _ HT.out).mono ?_
    rintro e w2 ⟨rfl, hb2⟩
    go_wp2_with fail
    go_ret
    exact ⟨rfl, hb2⟩
  · have F1 := hide (fun W => few_is ao na ca true (by simp; omega) W)
    have F2 := hide (fun W => few_is bo nb cb false (by simp; omega) W)
    clear h h1
    go_enter Tryd.func6, Tryd.ntmps6
    go_wp2_with fail
    refine (F1.out _).mono ?_
    rintro e w1 ⟨rfl, rfl⟩
    go_wp2_with fail
    refine (F2.out _).mono ?_
    rintro e w1 ⟨rfl, rfl⟩
    go_wp2_with fail
    refine (lives_is _ HT.out).mono ?_
    rintro e w2 ⟨rfl, hb2⟩
    go_wp2_with fail
    go_ret
    exact ⟨rfl, hb2⟩

set_option maxHeartbeats 8000000 in
theorem dels_noset (ao bo : Option Addr) (ca cb : Nat) (l m : List Co.C) (w : World) (hT : Tab w) (hA : Co.slot w ao l) (ha : l.length ≤ 200) (hb : m.length ≤ 200) (hs : Co.set l = false) :
    Calls Tryd.prog 6 #[.slice ao l.length ca, .slice bo m.length cb] w fun e w' => e = .returned (.bool true) ∧ Below w.heap.size w w' := by
  have F1 := hide (fun W => few_is ao l.length ca true (by simpa using ha) W)
  have F2 := hide (fun W => few_is bo m.length cb true (by simpa using hb) W)
  have CD := hide (fun W (hW : Below w.heap.size w W) => del_bad ao bo ca cb m.length l W (Co.slot_below hA hW) hs)
  have CB := hide (fun W (hW : Below w.heap.size w W) => both_bad1 ao bo ca cb m.length l W (Co.slot_below hA hW) hs)
  have CS := hide (fun W (hW : Below w.heap.size w W) => refSet_is ao ca l false hs W (Co.slot_below hA hW) ha)
  have HT := hide hT
  clear hT hA ha hb hs
  generalize l.length = na at *
  generalize m.length = nb at *
  go_enter Tryd.func6, Tryd.ntmps6
  go_wp2_with fail
  refine (F1.out _).mono ?_
  rintro e w1 ⟨rfl, rfl⟩
  go_wp2_with fail
  refine (F2.out _).mono ?_
  rintro e w1 ⟨rfl, rfl⟩
  go_wp2_with fail
  refine (CD.out _ (brefl _)).mono ?_
  rintro e w2 ⟨rfl, hb2⟩
  have B2 := hide hb2
  clear hb2
  go_wp2_with fail
  refine (CB.out _ B2.out).mono ?_
  rintro e w3 ⟨rfl, hb3⟩
  have B3 := hide (bthen B2.out hb3)
  clear hb3
  go_wp2_with fail
  refine (CS.out _ B3.out).mono ?_
  rintro e w4 ⟨rfl, hb4⟩
  have B4 := hide (bthen B3.out hb4)
  clear hb4
  go_wp2_with fail
  refine (lives_is _ (HT.out.on B4.out)).mono ?_
  rintro e w5 ⟨rfl, hb5⟩
  go_wp2_with fail
  go_ret
  exact ⟨rfl, bthen B4.out hb5⟩

set_option maxHeartbeats 8000000 in
theorem dels_set (ao bo : Option Addr) (ca cb : Nat) (l m x y : List Co.C) (w : World) (hT : Tab w) (hA : Co.slot w ao l) (hM : Co.slot w bo m) (hC : Co.came ao ca) (hb : m.length ≤ 200) (hs : Co.set l = true)
    (hx : x = l.filter fun c => !Co.inL m c) (hx2 : x = l.filter fun c => Co.inL m c == false) (hy : y = l.filter fun c => !!Co.inL m c) (hy2 : y = l.filter fun c => Co.inL m c == true) :
    Calls Tryd.prog 6 #[.slice ao l.length ca, .slice bo m.length cb] w fun e w' => e = .returned (.bool true) ∧ Below w.heap.size w w' := by
  have ha : l.length ≤ 8 := ((Co.set_iff l).1 hs).1
  have hxl : x.length ≤ 8 := by rw [hx]; exact Nat.le_trans (List.length_filter_le _ _) ha
  have hyl : y.length ≤ 8 := by rw [hy]; exact Nat.le_trans (List.length_filter_le _ _) ha
  have F1 := hide (fun W => few_is ao l.length ca true (by simp; omega) W)
  have F2 := hide (fun W => few_is bo m.length cb true (by simpa using hb) W)
  have CD := hide (fun W (hW : Below w.heap.size w W) => del_good ao bo ca cb l m x hx W (Co.slot_below hA hW) (Co.slot_below hM hW) hC hs (by omega))
  have CS := hide (fun W (hW : Below w.heap.size w W) => refSet_is ao ca l true hs W (Co.slot_below hA hW) (by omega))
  have CK := hide (fun W (hW : Below w.heap.size w W) => refKeep_is ao bo ca cb l m x false hx2 W (Co.slot_below hA hW) (Co.slot_below hM hW) (by omega) (by omega))
  have CL := hide (fun W (hW : Below w.heap.size w W) => refKeep_is ao bo ca cb l m y true hy2 W (Co.slot_below hA hW) (Co.slot_below hM hW) (by omega) (by omega))
  have HT := hide hT
  obtain ⟨s, hs2⟩ : ∃ s, Co.set m = s := ⟨_, rfl⟩
  have CM := hide (fun W (hW : Below w.heap.size w W) => refSet_is bo cb m s hs2 W (Co.slot_below hM hW) hb)
  cases s
  · have CB := hide (fun W (hW : Below w.heap.size w W) => both_bad2 ao bo ca cb l m W (Co.slot_below hA hW) (Co.slot_below hM hW) hs hs2)
    clear hT hA hM hC ha hb hs hx hx2 hy hy2 hs2
    generalize l.length = na at *
    generalize m.length = nb at *
    go_enter Tryd.func6, Tryd.ntmps6
    go_wp2_with fail
    refine (F1.out _).mono ?_
    rintro e w1 ⟨rfl, rfl⟩
    go_wp2_with fail
    refine (F2.out _).mono ?_
    rintro e w1 ⟨rfl, rfl⟩
    go_wp2_with fail
    refine (CD.out _ (brefl _)).mono ?_
    rintro e w2 ⟨xo, xc, rfl, hcx, hwx, hb2⟩
    have SX := hide (Co.wrow_slot hwx)
    have B2 := hide hb2
    clear hb2 hcx hwx
    go_wp2_with fail
    refine (CB.out _ B2.out).mono ?_
    rintro e w3 ⟨rfl, hb3⟩
    have SX3 := hide (Co.slot_below SX.out hb3)
    have B3 := hide (bthen B2.out hb3)
    clear hb3
    go_wp2_with fail
    refine (CS.out _ B3.out).mono ?_
    rintro e w4 ⟨rfl, hb4⟩
    have SX4 := hide (Co.slot_below SX3.out hb4)
    have B4 := hide (bthen B3.out hb4)
    clear hb4
    go_wp2_with fail
    refine (CK.out _ B4.out).mono ?_
    rintro e w5 ⟨ko, kc, rfl, hown, hb5⟩
    have SK := hide (Co.slot_own hown)
    have SX5 := hide (Co.slot_below SX4.out hb5)
    have B5 := hide (bthen B4.out hb5)
    clear hb5 hown
    have CSM := hide (refSame_is xo ko xc kc x x true (by simp) w5 SX5.out SK.out (by omega) (by omega))
    go_wp2_with fail
    refine CSM.out.mono ?_
    rintro e w6 ⟨rfl, hb6⟩
    have B6 := hide (bthen B5.out hb6)
    clear hb6
    go_wp2_with fail
    refine (CM.out _ B6.out).mono ?_
    rintro e w7 ⟨rfl, hb7⟩
    have B7 := hide (bthen B6.out hb7)
    clear hb7
    go_wp2_with fail
    refine (lives_is _ (HT.out.on B7.out)).mono ?_
    rintro e w8 ⟨rfl, hb8⟩
    go_wp2_with fail
    go_ret
    exact ⟨rfl, bthen B7.out hb8⟩
  · have CB := hide (fun W (hW : Below w.heap.size w W) => both_good ao bo ca cb l m y hy W (Co.slot_below hA hW) (Co.slot_below hM hW) hC hs hs2)
    clear hT hA hM hC ha hb hs hx hx2 hy hy2 hs2
    generalize l.length = na at *
    generalize m.length = nb at *
    go_enter Tryd.func6, Tryd.ntmps6
    go_wp2_with fail
    refine (F1.out _).mono ?_
    rintro e w1 ⟨rfl, rfl⟩
    go_wp2_with fail
    refine (F2.out _).mono ?_
    rintro e w1 ⟨rfl, rfl⟩
    go_wp2_with fail
    refine (CD.out _ (brefl _)).mono ?_
    rintro e w2 ⟨xo, xc, rfl, hcx, hwx, hb2⟩
    have SX := hide (Co.wrow_slot hwx)
    have B2 := hide hb2
    clear hb2 hcx hwx
    go_wp2_with fail
    refine (CB.out _ B2.out).mono ?_
    rintro e w3 ⟨yo, yc, rfl, hcy, hwy, hb3⟩
    have SY3 := hide (Co.wrow_slot hwy)
    have SX3 := hide (Co.slot_below SX.out hb3)
    have B3 := hide (bthen B2.out hb3)
    clear hb3 hcy hwy
    go_wp2_with fail
    refine (CS.out _ B3.out).mono ?_
    rintro e w4 ⟨rfl, hb4⟩
    have SX4 := hide (Co.slot_below SX3.out hb4)
    have SY4 := hide (Co.slot_below SY3.out hb4)
    have B4 := hide (bthen B3.out hb4)
    clear hb4
    go_wp2_with fail
    refine (CK.out _ B4.out).mono ?_
    rintro e w5 ⟨ko, kc, rfl, hown, hb5⟩
    have SK := hide (Co.slot_own hown)
    have SX5 := hide (Co.slot_below SX4.out hb5)
    have SY5 := hide (Co.slot_below SY4.out hb5)
    have B5 := hide (bthen B4.out hb5)
    clear hb5 hown
    have CSM := hide (refSame_is xo ko xc kc x x true (by simp) w5 SX5.out SK.out (by omega) (by omega))
    go_wp2_with fail
    refine CSM.out.mono ?_
    rintro e w6 ⟨rfl, hb6⟩
    have SY6 := hide (Co.slot_below SY5.out hb6)
    have B6 := hide (bthen B5.out hb6)
    clear hb6
    go_wp2_with fail
    refine (CM.out _ B6.out).mono ?_
    rintro e w7 ⟨rfl, hb7⟩
    have SY7 := hide (Co.slot_below SY6.out hb7)
    have B7 := hide (bthen B6.out hb7)
    clear hb7
    go_wp2_with fail
    refine (CL.out _ B7.out).mono ?_
    rintro e w8 ⟨jo, jc, rfl, hown, hb8⟩
    have SJ := hide (Co.slot_own hown)
    have SY8 := hide (Co.slot_below SY7.out hb8)
    have B8 := hide (bthen B7.out hb8)
    clear hb8 hown
    have CSN := hide (refSame_is yo jo yc jc y y true (by simp) w8 SY8.out SJ.out (by omega) (by omega))
    go_wp2_with fail
    refine CSN.out.mono ?_
    rintro e w9 ⟨rfl, hb9⟩
    have B9 := hide (bthen B8.out hb9)
    clear hb9
    go_wp2_with fail
    refine (lives_is _ (HT.out.on B9.out)).mono ?_
    rintro e w10 ⟨rfl, hb10⟩
    go_wp2_with fail
    go_ret
    exact ⟨rfl, bthen B9.out hb10⟩

theorem dels_law (ao bo : Option Addr) (ca cb : Nat) (l m : List Co.C) (w : World) (hT : Tab w) (hA : Co.slot w ao l) (hM : Co.slot w bo m) (hC : Co.came ao ca) :
    Calls Tryd.prog 6 #[.slice ao l.length ca, .slice bo m.length cb] w fun e w' => e = .returned (.bool true) ∧ Below w.heap.size w w' := by
  by_cases ha : l.length ≤ 200
  · by_cases hb : m.length ≤ 200
    · cases hs : Co.set l
      · exact dels_noset ao bo ca cb l m w hT hA ha hb hs
      · refine dels_set ao bo ca cb l m _ _ w hT hA hM hC hb hs rfl ?_ rfl ?_
        · congr 1
          funext c
          cases Co.inL m c <;> rfl
        · congr 1
          funext c
          cases Co.inL m c <;> rfl
    · exact dels_long ao bo ca cb _ _ w hT (.inr ⟨ha, by omega⟩)
  · exact dels_long ao bo ca cb _ _ w hT (.inl (by omega))
end Go.Proofs.YtgebfgjeckdngaaDoor
