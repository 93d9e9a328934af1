import Derived.Test.YtkpoanjcalolkaaDoorDi3
import Derived.Test.YtkpoanjcalolkaaDoorPa1
/- The law PlistDiffers walked. -/
namespace Go.Proofs.YtkpoanjcalolkaaDoor
open Go.RowKit

theorem differ_bad1_is (ao bo : Option Addr) (ca cb m : Nat) (a : List Ad.R) (x : Int) (w : World) (hRa : Ad.slotR w ao a) (hfa : Ad.fitsR a) (hx : Hid (Ad.rwhy a = x)) (hx0 : (x != 0) = true) :
    Calls Tryd.prog 26 #[.slice ao a.length ca, .slice bo m cb] w fun e w' => e = .returned (.tuple #[.agg #[.int .u32 0, .int .i64 0], .bool false, .int .i64 x]) ∧ Below w.heap.size w w' := differ_bad1 ao bo ca cb m a x w hRa hfa hx hx0
theorem differ_bad2_is (ao bo : Option Addr) (ca cb : Nat) (a b : List Ad.R) (x : Int) (w : World) (hRa : Ad.slotR w ao a) (hRb : Ad.slotR w bo b) (hfa : Ad.fitsR a) (hfb : Ad.fitsR b) (hz : Ad.rwhy a = 0) (hx : Hid (Ad.rwhy b = x)) (hx0 : (x != 0) = true) :
    Calls Tryd.prog 26 #[.slice ao a.length ca, .slice bo b.length cb] w fun e w' => e = .returned (.tuple #[.agg #[.int .u32 0, .int .i64 0], .bool false, .int .i64 x]) ∧ Below w.heap.size w w' := differ_bad2 ao bo ca cb a b x w hRa hRb hfa hfb hz hx hx0
theorem differ_good_is (ao bo : Option Addr) (ca cb : Nat) (a b : List Ad.R) (w : World) (hRa : Ad.slotR w ao a) (hRb : Ad.slotR w bo b) (hfa : Ad.fitsR a) (hfb : Ad.fitsR b) (hx : Ad.rwhy a = 0) (hy : Ad.rwhy b = 0) :
    Calls Tryd.prog 26 #[.slice ao a.length ca, .slice bo b.length cb] w fun e w' => ∃ c k f, e = .returned (.tuple #[.agg #[.int .u32 c, .int .i64 k], .bool f, .int .i64 0]) ∧ Ad.Least (fun x d => Ad.ps a x d != Ad.ps b x d) c k f ∧ Below w.heap.size w w' := differ_good ao bo ca cb a b w hRa hRb hfa hfb hx hy

set_option maxHeartbeats 4000000 in
theorem differs_bad1 (ao bo : Option Addr) (ca cb : Nat) (a b : List Ad.R) (c d x : Int) (w : World) (hRa : Ad.slotR w ao a) (hfa : Ad.fitsR a) (_hc : 0 ≤ c) (_hc2 : c ≤ 4294967295) (hx : Hid (Ad.rwhy a = x)) (hx0 : (x != 0) = true) :
    Calls Tryd.prog 8 #[.slice ao a.length ca, .slice bo b.length cb, .agg #[.int .u32 c, .int .i64 d]] w fun e w' => e = .returned (.bool true) ∧ Below w.heap.size w w' := by
  have HR := hide (Ad.slotR_below hRa (balloc (brefl w) (.cells #[.int .u32 c, .int .i64 d] 25)))
  have HF := hide hfa
  have hx1 : (x == 0) = false := by simpa using hx0
  clear hRa hfa
  have B0 := hide (balloc (brefl w) (.cells #[.int .u32 c, .int .i64 d] 25))
  go_enter Tryd.func8, Tryd.ntmps8
  go_wp2_with fail
  generalize w.alloc (.cells #[.int .u32 c, .int .i64 d] 25) = W0 at HR B0 ⊢
  refine (differ_bad1_is ao bo ca cb b.length a x _ HR.out HF.out hx hx0).mono ?_
  rintro e w1 ⟨rfl, hb1⟩
  have HR1 := hide (Ad.slotR_below HR.out hb1)
  have B1 := hide (bthen B0.out hb1)
  clear hb1 HR B0
  go_wp2_with fail
  have S2 := hide (Ad.slotR_below HR1.out (balloc (brefl w1) (.cells #[.int .u32 0, .int .i64 0] 25)))
  have Q2 := hide (two_of (W := w1.alloc (.cells #[.int .u32 0, .int .i64 0] 25)) (n := w1.heap.size) (a := 0) (b := 0) (by simp) (by simp))
  have B2 := hide (balloc B1.out (.cells #[.int .u32 0, .int .i64 0] 25))
  generalize w1.alloc (.cells #[.int .u32 0, .int .i64 0] 25) = W2 at S2 Q2 B2 ⊢
  generalize w1.heap.size = R at Q2 ⊢
  refine (refRWhy_is ao ca a x hx.out _ S2.out HF.out).mono ?_
  rintro e w3 ⟨rfl, hb3⟩
  obtain ⟨t0, t1, t2, t3⟩ := two_below hb3 Q2.out.1 Q2.out.2.1
  have B3 := hide (bthen B2.out hb3)
  clear hb3 S2 Q2 B2 HR1 B1
  go_wp2_with fail
  refine (lives_any _).mono ?_
  rintro e w7 ⟨rfl, hb7⟩
  go_wp2_with fail
  go_ret
  exact ⟨rfl, bthen B3.out hb7⟩

set_option maxHeartbeats 4000000 in
theorem differs_bad2 (ao bo : Option Addr) (ca cb : Nat) (a b : List Ad.R) (c d x : Int) (w : World) (hRa : Ad.slotR w ao a) (hRb : Ad.slotR w bo b) (hfa : Ad.fitsR a) (hfb : Ad.fitsR b) (_hc : 0 ≤ c) (_hc2 : c ≤ 4294967295) (hz : Ad.rwhy a = 0) (hx : Hid (Ad.rwhy b = x)) (hx0 : (x != 0) = true) :
    Calls Tryd.prog 8 #[.slice ao a.length ca, .slice bo b.length cb, .agg #[.int .u32 c, .int .i64 d]] w fun e w' => e = .returned (.bool true) ∧ Below w.heap.size w w' := by
  have HRA := hide (Ad.slotR_below hRa (balloc (brefl w) (.cells #[.int .u32 c, .int .i64 d] 25)))
  have HRB := hide (Ad.slotR_below hRb (balloc (brefl w) (.cells #[.int .u32 c, .int .i64 d] 25)))
  have HFA := hide hfa
  have HFB := hide hfb
  have HZ := hide hz
  have hx1 : (x == 0) = false := by simpa using hx0
  clear hRa hRb hfa hfb hz
  have B0 := hide (balloc (brefl w) (.cells #[.int .u32 c, .int .i64 d] 25))
  go_enter Tryd.func8, Tryd.ntmps8
  go_wp2_with fail
  generalize w.alloc (.cells #[.int .u32 c, .int .i64 d] 25) = W0 at HRA HRB B0 ⊢
  refine (differ_bad2_is ao bo ca cb a b x _ HRA.out HRB.out HFA.out HFB.out HZ.out hx hx0).mono ?_
  rintro e w1 ⟨rfl, hb1⟩
  have SA1 := hide (Ad.slotR_below HRA.out hb1)
  have SB1 := hide (Ad.slotR_below HRB.out hb1)
  have B1 := hide (bthen B0.out hb1)
  clear hb1 HRA HRB B0
  go_wp2_with fail
  have SA2 := hide (Ad.slotR_below SA1.out (balloc (brefl w1) (.cells #[.int .u32 0, .int .i64 0] 25)))
  have SB2 := hide (Ad.slotR_below SB1.out (balloc (brefl w1) (.cells #[.int .u32 0, .int .i64 0] 25)))
  have Q2 := hide (two_of (W := w1.alloc (.cells #[.int .u32 0, .int .i64 0] 25)) (n := w1.heap.size) (a := 0) (b := 0) (by simp) (by simp))
  have B2 := hide (balloc B1.out (.cells #[.int .u32 0, .int .i64 0] 25))
  generalize w1.alloc (.cells #[.int .u32 0, .int .i64 0] 25) = W2 at SA2 SB2 Q2 B2 ⊢
  generalize w1.heap.size = R at Q2 ⊢
  refine (refRWhy_is ao ca a 0 HZ.out _ SA2.out HFA.out).mono ?_
  rintro e w3 ⟨rfl, hb3⟩
  have SB3 := hide (Ad.slotR_below SB2.out hb3)
  have Q3 := hide (two_below hb3 Q2.out.1 Q2.out.2.1)
  have B3 := hide (bthen B2.out hb3)
  clear hb3 SA2 SB2 Q2 B2 SA1 SB1 B1
  go_wp2_with fail
  refine (refRWhy_is bo cb b x hx.out _ SB3.out HFB.out).mono ?_
  rintro e w4 ⟨rfl, hb4⟩
  obtain ⟨t0, t1, t2, t3⟩ := two_below hb4 Q3.out.1 Q3.out.2.1
  have B4 := hide (bthen B3.out hb4)
  clear hb4 SB3 Q3 B3
  go_wp2_with fail
  refine (lives_any _).mono ?_
  rintro e w7 ⟨rfl, hb7⟩
  go_wp2_with fail
  go_ret
  exact ⟨rfl, bthen B4.out hb7⟩

/-- What the law asks of the least prefix, in its words. -/
theorem Ad.least_ends (a b : List Ad.R) (c d q k : Int) (f : Bool) (hc : 0 ≤ c) (hc2 : c ≤ 4294967295) (h : Ad.Least (fun x d => Ad.ps a x d != Ad.ps b x d) q k f) :
    0 ≤ q ∧ q ≤ 4294967295 ∧ ((f = false ∧ q = 0 ∧ k = 0 ∧ Ad.ps a c d = Ad.ps b c d) ∨ (f = true ∧ (Ad.ps a q k != Ad.ps b q k) = true ∧ (Ad.ps a c d = Ad.ps b c d ∨ ((Ad.ps a c d != Ad.ps b c d) = true ∧ (k < d ∨ (k = d ∧ q ≤ c)))))) := by
  rcases h with ⟨rfl, rfl, rfl, h⟩ | ⟨rfl, h0, h1, hm, hp, h⟩
  · refine ⟨Int.le_refl _, by omega, .inl ⟨rfl, rfl, rfl, ?_⟩⟩
    cases hmp : Ad.may c d
    · unfold Ad.ps
      rw [Ad.first_may a c d hmp, Ad.first_may b c d hmp]
      rfl
    · have := h c d hc hc2 hmp
      simpa using this
  · refine ⟨h0, h1, .inr ⟨rfl, hp, ?_⟩⟩
    by_cases he : Ad.ps a c d = Ad.ps b c d
    · exact .inl he
    · have hne : (Ad.ps a c d != Ad.ps b c d) = true := by simpa using he
      refine .inr ⟨hne, ?_⟩
      cases hmp : Ad.may c d
      · exfalso
        apply he
        unfold Ad.ps
        rw [Ad.first_may a c d hmp, Ad.first_may b c d hmp]
        rfl
      · exact h c d hc hc2 hmp hne
theorem Ad.lets_ps (l : List Ad.R) (c d : Int) (h : Ad.rwhy l = 0) : Ad.lets l c d = (Ad.ps l c d, Ad.first l c d) := by
  unfold Ad.lets Ad.ps
  rw [if_pos h]
end Go.Proofs.YtkpoanjcalolkaaDoor

/- The law PlistDiffers walked: two lists. -/
namespace Go.Proofs.YtkpoanjcalolkaaDoor
open Go.RowKit

set_option maxHeartbeats 8000000 in
theorem differs_good (ao bo : Option Addr) (ca cb : Nat) (a b : List Ad.R) (c d : Int) (w : World) (hRa : Ad.slotR w ao a) (hRb : Ad.slotR w bo b) (hfa : Ad.fitsR a) (hfb : Ad.fitsR b) (hc : 0 ≤ c) (hc2 : c ≤ 4294967295) (hx : Ad.rwhy a = 0) (hy : Ad.rwhy b = 0) :
    Calls Tryd.prog 8 #[.slice ao a.length ca, .slice bo b.length cb, .agg #[.int .u32 c, .int .i64 d]] w fun e w' => e = .returned (.bool true) ∧ Below w.heap.size w w' := by
  have HRA := hide (Ad.slotR_below hRa (balloc (brefl w) (.cells #[.int .u32 c, .int .i64 d] 25)))
  have HRB := hide (Ad.slotR_below hRb (balloc (brefl w) (.cells #[.int .u32 c, .int .i64 d] 25)))
  have HFA := hide hfa
  have HFB := hide hfb
  have HX := hide hx
  have HY := hide hy
  clear hRa hRb hfa hfb hx hy
  have B0 := hide (balloc (brefl w) (.cells #[.int .u32 c, .int .i64 d] 25))
  have T0 := hide (two_of (W := w.alloc (.cells #[.int .u32 c, .int .i64 d] 25)) (n := w.heap.size) (a := c) (b := d) (by simp) (by simp))
  go_enter Tryd.func8, Tryd.ntmps8
  go_wp2_with fail
  generalize w.alloc (.cells #[.int .u32 c, .int .i64 d] 25) = W0 at HRA HRB B0 T0 ⊢
  refine (differ_good_is ao bo ca cb a b _ HRA.out HRB.out HFA.out HFB.out HX.out HY.out).mono ?_
  rintro e w1 ⟨q, k, f, rfl, hle, hb1⟩
  have SA1 := hide (Ad.slotR_below HRA.out hb1)
  have SB1 := hide (Ad.slotR_below HRB.out hb1)
  have T1 := hide (two_below hb1 T0.out.1 T0.out.2.1)
  have B1 := hide (bthen B0.out hb1)
  clear hb1 HRA HRB B0 T0
  have hends := Ad.least_ends a b c d q k f hc hc2 hle
  clear hle
  have LA := hide (Ad.lets_ps a q k HX.out)
  have LB' := hide (Ad.lets_ps b q k HY.out)
  have LU := hide (Ad.lets_ps a c d HX.out)
  have LV := hide (Ad.lets_ps b c d HY.out)
  generalize Ad.ps a q k = xa at LA hends
  generalize Ad.ps b q k = xb at LB' hends
  generalize Ad.ps a c d = ua at LU hends
  generalize Ad.ps b c d = ub at LV hends
  obtain ⟨hq0, hq1, hends⟩ := hends
  go_wp2_with fail
  have SA2 := hide (Ad.slotR_below SA1.out (balloc (brefl w1) (.cells #[.int .u32 q, .int .i64 k] 25)))
  have SB2 := hide (Ad.slotR_below SB1.out (balloc (brefl w1) (.cells #[.int .u32 q, .int .i64 k] 25)))
  have Q2 := hide (two_of (W := w1.alloc (.cells #[.int .u32 q, .int .i64 k] 25)) (n := w1.heap.size) (a := q) (b := k) (by simp) (by simp))
  have T2 := hide (two_below (balloc (brefl w1) (.cells #[.int .u32 q, .int .i64 k] 25)) T1.out.1 T1.out.2.1)
  have B2 := hide (balloc B1.out (.cells #[.int .u32 q, .int .i64 k] 25))
  clear SA1 SB1 T1 B1
  generalize w1.alloc (.cells #[.int .u32 q, .int .i64 k] 25) = W2 at SA2 SB2 Q2 T2 B2 ⊢
  generalize w1.heap.size = R at Q2 ⊢
  refine (refRWhy_is ao ca a 0 HX.out _ SA2.out HFA.out).mono ?_
  rintro e w3 ⟨rfl, hb3⟩
  have SA3 := hide (Ad.slotR_below SA2.out hb3)
  have SB3 := hide (Ad.slotR_below SB2.out hb3)
  have Q3 := hide (two_below hb3 Q2.out.1 Q2.out.2.1)
  have T3 := hide (two_below hb3 T2.out.1 T2.out.2.1)
  have B3 := hide (bthen B2.out hb3)
  clear hb3 SA2 SB2 Q2 T2 B2
  go_wp2_with fail
  refine (refRWhy_is bo cb b 0 HY.out _ SB3.out HFB.out).mono ?_
  rintro e w4 ⟨rfl, hb4⟩
  have SA4 := hide (Ad.slotR_below SA3.out hb4)
  have SB4 := hide (Ad.slotR_below SB3.out hb4)
  have Q4 := hide (two_below hb4 Q3.out.1 Q3.out.2.1)
  have T4 := hide (two_below hb4 T3.out.1 T3.out.2.1)
  have B4 := hide (bthen B3.out hb4)
  clear hb4 SA3 SB3 Q3 T3 B3
  obtain ⟨t0, t1, t2, t3⟩ := Q4.out
  have HE := hide hends
  clear hends
  go_wp2_with fail
  refine (refLets_is ao ca a q k _ _ LA.out _ SA4.out HFA.out hq0 hq1).mono ?_
  rintro e w5 ⟨rfl, hb5⟩
  have SA5 := hide (Ad.slotR_below SA4.out hb5)
  have SB5 := hide (Ad.slotR_below SB4.out hb5)
  have Q5 := hide (two_below hb5 Q4.out.1 Q4.out.2.1)
  have T5 := hide (two_below hb5 T4.out.1 T4.out.2.1)
  have B5 := hide (bthen B4.out hb5)
  clear hb5 SA4 SB4 Q4 T4 B4 t0 t1 t2 t3
  obtain ⟨t0, t1, t2, t3⟩ := Q5.out
  generalize Ad.first a q k = i1 at *
  go_wp2_with fail
  refine (refLets_is bo cb b q k _ _ LB'.out _ SB5.out HFB.out hq0 hq1).mono ?_
  rintro e w6 ⟨rfl, hb6⟩
  have SA6 := hide (Ad.slotR_below SA5.out hb6)
  have SB6 := hide (Ad.slotR_below SB5.out hb6)
  have Q6 := hide (two_below hb6 Q5.out.1 Q5.out.2.1)
  have T6 := hide (two_below hb6 T5.out.1 T5.out.2.1)
  have B6 := hide (bthen B5.out hb6)
  clear hb6 SA5 SB5 Q5 T5 B5 t0 t1 t2 t3
  generalize Ad.first b q k = i2 at *
  generalize Ad.first a c d = i3 at *
  generalize Ad.first b c d = i4 at *
  clear LA LB'
  obtain ⟨t0, t1, t2, t3⟩ := Q6.out
  obtain ⟨p0, p1, p2, p3⟩ := T6.out
  rcases HE.out with ⟨rfl, rfl, rfl, rfl⟩ | ⟨rfl, hxx, rfl | ⟨huv, hkd | ⟨rfl, hqc⟩⟩⟩
  · clear HE
    have hv : (ua != ua) = false := by cases ua <;> rfl
    cases xa <;> cases xb
    all_goals
      go_wp2_with fail
      refine (refLets_is ao ca a c d _ _ LU.out _ SA6.out HFA.out hc hc2).mono ?_
      rintro e w7 ⟨rfl, hb7⟩
      have SB7 := hide (Ad.slotR_below SB6.out hb7)
      have T7 := hide (two_below hb7 T6.out.1 T6.out.2.1)
      have B7 := hide (bthen B6.out hb7)
      clear hb7
      obtain ⟨r0, r1, r2, r3⟩ := T7.out
      go_wp2_with fail
      refine (refLets_is bo cb b c d _ _ LV.out _ SB7.out HFB.out hc hc2).mono ?_
      rintro e w8 ⟨rfl, hb8⟩
      have B8 := hide (bthen B7.out hb8)
      clear hb8
      go_wp2_with fail
      refine (lives_any _).mono ?_
      rintro e w9 ⟨rfl, hb9⟩
      go_wp2_with fail
      go_ret
      exact ⟨rfl, bthen B8.out hb9⟩
  · clear HE
    cases xa <;> cases xb
    any_goals (exfalso; revert hxx; decide)
    all_goals
      clear hxx
      go_wp2_with fail
      refine (refLets_is ao ca a c d _ _ LU.out _ SA6.out HFA.out hc hc2).mono ?_
      rintro e w7 ⟨rfl, hb7⟩
      have SB7 := hide (Ad.slotR_below SB6.out hb7)
      have T7 := hide (two_below hb7 T6.out.1 T6.out.2.1)
      have B7 := hide (bthen B6.out hb7)
      clear hb7
      obtain ⟨r0, r1, r2, r3⟩ := T7.out
      go_wp2_with fail
      refine (refLets_is bo cb b c d _ _ LV.out _ SB7.out HFB.out hc hc2).mono ?_
      rintro e w8 ⟨rfl, hb8⟩
      have B8 := hide (bthen B7.out hb8)
      clear hb8
      go_wp2_with fail
      refine (lives_any _).mono ?_
      rintro e w9 ⟨rfl, hb9⟩
      go_wp2_with fail
      go_ret
      exact ⟨rfl, bthen B8.out hb9⟩
  all_goals
    clear HE
    cases xa <;> cases xb <;> cases ua <;> cases ub
    any_goals (exfalso; revert hxx; decide)
    any_goals (exfalso; revert huv; decide)
    all_goals
      clear hxx huv
      go_wp2_with fail
      refine (refLets_is ao ca a c _ _ _ LU.out _ SA6.out HFA.out hc hc2).mono ?_
      rintro e w7 ⟨rfl, hb7⟩
      have SB7 := hide (Ad.slotR_below SB6.out hb7)
      have Q7 := hide (two_below hb7 Q6.out.1 Q6.out.2.1)
      have T7 := hide (two_below hb7 T6.out.1 T6.out.2.1)
      have B7 := hide (bthen B6.out hb7)
      clear hb7
      obtain ⟨r0, r1, r2, r3⟩ := T7.out
      go_wp2_with fail
      refine (refLets_is bo cb b c _ _ _ LV.out _ SB7.out HFB.out hc hc2).mono ?_
      rintro e w8 ⟨rfl, hb8⟩
      have B8 := hide (bthen B7.out hb8)
      obtain ⟨s0, s1, s2, s3⟩ := two_below hb8 T7.out.1 T7.out.2.1
      obtain ⟨v0, v1, v2, v3⟩ := two_below hb8 Q7.out.1 Q7.out.2.1
      clear hb8
      go_wp2_with fail
      refine (lives_any _).mono ?_
      rintro e w9 ⟨rfl, hb9⟩
      go_wp2_with fail
      go_ret
      exact ⟨rfl, bthen B8.out hb9⟩
end Go.Proofs.YtkpoanjcalolkaaDoor

/- The law PlistDiffers, whatever it is given. -/
namespace Go.Proofs.YtkpoanjcalolkaaDoor
open Go.RowKit

theorem differs_any (ao bo : Option Addr) (ca cb : Nat) (a b : List Ad.R) (c d : Int) (w : World) (hRa : Ad.slotR w ao a) (hfa : Ad.fitsR a) (hRb : Ad.slotR w bo b) (hfb : Ad.fitsR b) (hc : 0 ≤ c) (hc2 : c ≤ 4294967295) :
    Calls Tryd.prog 8 #[.slice ao a.length ca, .slice bo b.length cb, .agg #[.int .u32 c, .int .i64 d]] w fun e w' => e = .returned (.bool true) ∧ Below w.heap.size w w' := by
  by_cases hx : Ad.rwhy a = 0
  · by_cases hy : Ad.rwhy b = 0
    · exact differs_good ao bo ca cb a b c d w hRa hRb hfa hfb hc hc2 hx hy
    · exact differs_bad2 ao bo ca cb a b c d _ w hRa hRb hfa hfb hc hc2 hx rfl (by simpa using hy)
  · exact differs_bad1 ao bo ca cb a b c d _ w hRa hfa hc hc2 rfl (by simpa using hx)
end Go.Proofs.YtkpoanjcalolkaaDoor

