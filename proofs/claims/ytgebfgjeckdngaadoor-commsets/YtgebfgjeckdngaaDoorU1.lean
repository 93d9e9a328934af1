/- The law CommSets walked. -/
import Derived.Test.YtgebfgjeckdngaaDoorO3
namespace Go.Proofs.YtgebfgjeckdngaaDoor
open Go.RowKit Go.Sort

set_option maxHeartbeats 4000000 in
theorem sets_long (ao bo : Option Addr) (ca cb na nb : Nat) (c d : Int) (w : World) (hT : Tab w) (h : 200 < na ∨ (na ≤ 200 ∧ 200 < nb)) :
    Calls Tryd.prog 4 #[.slice ao na ca, .slice bo nb cb, .agg #[.int .i64 c, .int .i64 d]] w fun e w' => e = .returned (.bool true) ∧ Below w.heap.size w w' := by
  have B0 := hide (balloc (brefl w) (.cells #[.int .i64 c, .int .i64 d] 23))
  have HT := hide (hT.on B0.out)
  clear hT
  rcases h with h | ⟨h1, h⟩
  · have F1 := hide (fun W => few_is ao na ca false (by simp; omega) W)
    clear h
    go_enter Tryd.func4, Tryd.ntmps4
    go_wp2_with fail
    generalize w.alloc (.cells #[.int .i64 c, .int .i64 d] 23) = W0 at *
    refine (F1.out _).mono ?_
    rintro e w1 ⟨rfl, rfl⟩
    go_wp2_with fail
    refine (lives_is _ HT.out).mono ?_
    rintro e w2 ⟨rfl, hb2⟩
    go_wp2_with fail
    go_ret
    exact ⟨rfl, bthen B0.out hb2⟩
  · have F1 := hide (fun W => few_is ao na ca true (by simp; omega) W)
    have F2 := hide (fun W => few_is bo nb cb false (by simp; omega) W)
    clear h h1
    go_enter Tryd.func4, Tryd.ntmps4
    go_wp2_with fail
    generalize w.alloc (.cells #[.int .i64 c, .int .i64 d] 23) = W0 at *
    refine (F1.out _).mono ?_
    rintro e w1 ⟨rfl, rfl⟩
    go_wp2_with fail
    refine (F2.out _).mono ?_
    rintro e w1 ⟨rfl, rfl⟩
    go_wp2_with fail
    refine (lives_is _ HT.out).mono ?_
    rintro e w2 ⟨rfl, hb2⟩
    go_wp2_with fail
    go_ret
    exact ⟨rfl, bthen B0.out hb2⟩

set_option maxHeartbeats 8000000 in
theorem sets_short (ao bo : Option Addr) (ca cb : Nat) (a b : List Co.C) (c d : Int) (s i : Bool) (t : ByteArray) (x : Int) (w : World) (hT : Tab w) (hA : Co.slot w ao a) (hB : Co.slot w bo b) (ha : a.length ≤ 200) (hb : b.length ≤ 200)
    (hs : Co.set a = s) (hi : Co.inL a (c, d) = i) (ht : t = ⟨(Co.texts a).toArray⟩) (hx : Co.compare a b = x) :
    Calls Tryd.prog 4 #[.slice ao a.length ca, .slice bo b.length cb, .agg #[.int .i64 c, .int .i64 d]] w fun e w' => e = .returned (.bool true) ∧ Below w.heap.size w w' := by
  have hh : Co.has a (c, d) = (s && i) := by rw [Co.has, hs, hi]
  have B0 := hide (balloc (brefl w) (.cells #[.int .i64 c, .int .i64 d] 23))
  have T0 := hide (two_new w c d 23)
  have F1 := hide (fun W => few_is ao a.length ca true (by simpa using ha) W)
  have F2 := hide (fun W => few_is bo b.length cb true (by simpa using hb) W)
  have CR := hide (fun W (hW : Below w.heap.size w W) => refSet_is ao ca a s hs W (Co.slot_below hA hW) ha)
  have CS := hide (fun W (hW : Below w.heap.size w W) => set_is ao ca a s hs W (Co.slot_below hA hW))
  have CH := hide (fun W (hW : Below w.heap.size w W) => has_is ao ca a c d (s && i) hh W (Co.slot_below hA hW) (by omega))
  have CI := hide (fun W (hW : Below w.heap.size w W) => refIn_is ao ca a c d i hi W (Co.slot_below hA hW) (by omega))
  have CT := hide (fun W (hW : Below w.heap.size w W) => texts_is ao ca a t ht W (Co.slot_below hA hW) (hT.on hW))
  have CU := hide (fun W (hW : Below w.heap.size w W) => refTexts_is ao ca a t ht W (Co.slot_below hA hW) ha)
  have CX := hide (fun W (hW : Below w.heap.size w W) => compare_is ao bo ca cb a b x hx W (Co.slot_below hA hW) (Co.slot_below hB hW) ha hb)
  have CY := hide (fun W (hW : Below w.heap.size w W) => refCompare_is ao bo ca cb a b x hx W (Co.slot_below hA hW) (Co.slot_below hB hW) ha hb)
  have HT := hide hT
  clear hT hA hB ha hb hs hi ht hx hh
  generalize a.length = na at *
  generalize b.length = nb at *
  cases s
  all_goals
    go_enter Tryd.func4, Tryd.ntmps4
    go_wp2_with fail
    generalize w.alloc (.cells #[.int .i64 c, .int .i64 d] 23) = W0 at B0 T0 ⊢
    refine (F1.out _).mono ?_
    rintro e w1 ⟨rfl, rfl⟩
    go_wp2_with fail
    refine (F2.out _).mono ?_
    rintro e w1 ⟨rfl, rfl⟩
    go_wp2_with fail
    refine (CR.out _ B0.out).mono ?_
    rintro e w2 ⟨rfl, hb2⟩
    have T2 := hide (two_below hb2 T0.out)
    have B2 := hide (bthen B0.out hb2)
    clear hb2
    go_wp2_with fail
    refine (CS.out _ B2.out).mono ?_
    rintro e w3 ⟨rfl, hb3⟩
    have T3 := hide (two_below hb3 T2.out)
    have B3 := hide (bthen B2.out hb3)
    clear hb3
    obtain ⟨p0, p1, p2, p3⟩ := T3.out
    go_wp2_with fail
    refine (CH.out _ B3.out).mono ?_
    rintro e w4 ⟨rfl, hb4⟩
    have T4 := hide (two_below hb4 T3.out)
    have B4 := hide (bthen B3.out hb4)
    clear hb4 p0 p1 p2 p3
    obtain ⟨p0, p1, p2, p3⟩ := T4.out
    go_wp2_with fail
  · refine (CT.out _ B4.out).mono ?_
    rintro e w6 ⟨rfl, hb6⟩
    have B6 := hide (bthen B4.out hb6)
    clear hb6 p0 p1 p2 p3
    go_wp2_with fail
    refine (CU.out _ B6.out).mono ?_
    rintro e w7 ⟨rfl, hb7⟩
    have B7 := hide (bthen B6.out hb7)
    clear hb7
    go_wp2_with fail
    refine (CX.out _ B7.out).mono ?_
    rintro e w8 ⟨rfl, hb8⟩
    have B8 := hide (bthen B7.out hb8)
    clear hb8
    go_wp2_with fail
    refine (CY.out _ B8.out).mono ?_
    rintro e w9 ⟨rfl, hb9⟩
    have B9 := hide (bthen B8.out hb9)
    clear hb9
    go_wp2_with fail
    refine (lives_is _ (HT.out.on B9.out)).mono ?_
    rintro e w10 ⟨rfl, hb10⟩
    go_wp2_with fail
    go_ret
    exact ⟨rfl, bthen B9.out hb10⟩
  · refine (CI.out _ B4.out).mono ?_
    rintro e w5 ⟨rfl, hb5⟩
    have B5 := hide (bthen B4.out hb5)
    clear hb5 p0 p1 p2 p3
    go_wp2_with fail
    refine (CT.out _ B5.out).mono ?_
    rintro e w6 ⟨rfl, hb6⟩
    have B6 := hide (bthen B5.out hb6)
    clear hb6
    go_wp2_with fail
    refine (CU.out _ B6.out).mono ?_
    rintro e w7 ⟨rfl, hb7⟩
    have B7 := hide (bthen B6.out hb7)
    clear hb7
    go_wp2_with fail
    refine (CX.out _ B7.out).mono ?_
    rintro e w8 ⟨rfl, hb8⟩
    have B8 := hide (bthen B7.out hb8)
    clear hb8
    go_wp2_with fail
    refine (CY.out _ B8.out).mono ?_
    rintro e w9 ⟨rfl, hb9⟩
    have B9 := hide (bthen B8.out hb9)
    clear hb9
    go_wp2_with fail
    refine (lives_is _ (HT.out.on B9.out)).mono ?_
    rintro e w10 ⟨rfl, hb10⟩
    go_wp2_with fail
    go_ret
    exact ⟨rfl, bthen B9.out hb10⟩

theorem sets_law (ao bo : Option Addr) (ca cb : Nat) (a b : List Co.C) (c d : Int) (w : World) (hT : Tab w) (hA : Co.slot w ao a) (hB : Co.slot w bo b) :
    Calls Tryd.prog 4 #[.slice ao a.length ca, .slice bo b.length cb, .agg #[.int .i64 c, .int .i64 d]] w fun e w' => e = .returned (.bool true) ∧ Below w.heap.size w w' := by
  by_cases ha : a.length ≤ 200
  · by_cases hb : b.length ≤ 200
    · exact sets_short ao bo ca cb a b c d _ _ _ _ w hT hA hB ha hb rfl rfl rfl rfl
    · exact sets_long ao bo ca cb _ _ c d w hT (.inr ⟨ha, by omega⟩)
  · exact sets_long ao bo ca cb _ _ c d w hT (.inl (by omega))
end Go.Proofs.YtgebfgjeckdngaaDoor
