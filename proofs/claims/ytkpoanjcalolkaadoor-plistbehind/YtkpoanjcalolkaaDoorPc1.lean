/- The law PlistBehind walked. -/
import Derived.Test.YtkpoanjcalolkaaDoorPc0
namespace Go.Proofs.YtkpoanjcalolkaaDoor
open Go.RowKit

set_option maxHeartbeats 2000000 in
theorem behind_long (ao ao2 : Option Addr) (n n2 cap cap2 : Nat) (c d : Int) (w : World) (h : 16 < n ∨ (n ≤ 16 ∧ 16 < n2)) :
    Calls Tryd.prog 5 #[.slice ao n cap, .slice ao2 n2 cap2, .agg #[.int .u32 c, .int .i64 d]] w fun e w' => e = .returned (.bool true) ∧ Below w.heap.size w w' := by
  rcases h with h | ⟨h, h2⟩
  · have h1 : (16 : Int) < (n : Int) := by omega
    go_enter Tryd.func5, Tryd.ntmps5
    go_wp2_with fail
    refine (lives_any _).mono ?_
    rintro e w1 ⟨rfl, hb1⟩
    go_wp2_with fail
    go_ret
    exact ⟨rfl, bthen (balloc (brefl w) _) hb1⟩
  · have h1 : ¬ (16 : Int) < (n : Int) := by omega
    have h3 : (16 : Int) < (n2 : Int) := by omega
    go_enter Tryd.func5, Tryd.ntmps5
    go_wp2_with fail
    refine (lives_any _).mono ?_
    rintro e w1 ⟨rfl, hb1⟩
    go_wp2_with fail
    go_ret
    exact ⟨rfl, bthen (balloc (brefl w) _) hb1⟩

/-- What the law asks at its end. -/
def Ad.ends (n1 : Nat) (r1 r2 r3 : Bool) (i1 i2 i3 : Int) : Prop := (0 ≤ i1 ∧ r3 = r1 ∧ i3 = i1) ∨ (i1 < 0 ∧ i2 < 0 ∧ i3 < 0 ∧ r3 = r2) ∨ (i1 < 0 ∧ 0 ≤ i2 ∧ i2 ≤ 1000 ∧ i3 = (n1 : Int) + i2 ∧ r3 = r2)

theorem Ad.lets_ends (l m : List Ad.R) (c d : Int) (h : Ad.rwhy (l ++ m) = 0) : Ad.ends l.length (Ad.lets l c d).1 (Ad.lets m c d).1 (Ad.lets (l ++ m) c d).1 (Ad.lets l c d).2 (Ad.lets m c d).2 (Ad.lets (l ++ m) c d).2 := by
  obtain ⟨h1, h2⟩ := Ad.rwhy_append l m h
  have hlm := Ad.rwhy_len m h2
  unfold Ad.lets
  rw [if_pos h, if_pos h1, if_pos h2]
  rcases Ad.first_cases l c d with ⟨e1, a1⟩ | ⟨k, hk, e1, m1, a1⟩
  · rcases Ad.first_cases m c d with ⟨e2, a2⟩ | ⟨k, hk, e2, m2, a2⟩
    · right; left
      rw [e1, e2, Ad.first_none l m c d a1 a2]
      exact ⟨(by decide : (-1 : Int) < 0), (by decide : (-1 : Int) < 0), (by decide : (-1 : Int) < 0), rfl⟩
    · right; right
      rw [e1, e2, Ad.first_right l m c d k a1 hk m2 a2]
      exact ⟨(by decide : (-1 : Int) < 0), by simp only; omega, by simp only; omega, by simp only; omega, Ad.pass_right l m k hk⟩
  · left
    rw [e1, Ad.first_left l m c d k hk m1 a1]
    exact ⟨by simp only; omega, Ad.pass_left l m k hk, rfl⟩

set_option maxHeartbeats 4000000 in
set_option maxRecDepth 100000 in
theorem behind_short (ao ao2 : Option Addr) (cap cap2 : Nat) (l l2 : List Ad.R) (c d x : Int) (r1 r2 r3 rp : Bool) (i1 i2 i3 : Int) (w : World) (hR : Ad.slotR w ao l) (hf : Ad.fitsR l) (hR2 : Ad.slotR w ao2 l2) (hf2 : Ad.fitsR l2) (hc : 0 ≤ c) (hc2 : c ≤ 4294967295) (h1 : l.length ≤ 16) (h2 : l2.length ≤ 16)
    (hcap : ao = none → cap = 0) (hsp : ∀ ad, ao = some ad → ad.spot = none) (hcap2 : ao2 = none → cap2 = 0) (hsp2 : ∀ ad, ao2 = some ad → ad.spot = none)
    (HX : Hid (Ad.rwhy (l ++ l2) = x)) (HP : Hid (Ad.may c d = rp)) (L1 : Hid (Ad.lets l c d = (r1, i1))) (L2 : Hid (Ad.lets l2 c d = (r2, i2))) (L3 : Hid (Ad.lets (l ++ l2) c d = (r3, i3))) (HE : Hid (x = 0 → Ad.ends l.length r1 r2 r3 i1 i2 i3)) :
    Calls Tryd.prog 5 #[.slice ao l.length cap, .slice ao2 l2.length cap2, .agg #[.int .u32 c, .int .i64 d]] w fun e w' => e = .returned (.bool true) ∧ Below w.heap.size w w' := by
  have g1 : ¬ (16 : Int) < (l.length : Int) := by omega
  have g2 : ¬ (16 : Int) < (l2.length : Int) := by omega
  have HN := hide (show 0 + l.length ≤ 1000000 by omega)
  have HN2 := hide (show 0 + l.length + l2.length ≤ 1000000 by omega)
  have T0 := hide (two_of (W := w.alloc (.cells #[.int .u32 c, .int .i64 d] 25)) (n := w.heap.size) (a := c) (b := d) (by simp) (by simp))
  have B0 := hide (balloc (brefl w) (.cells #[.int .u32 c, .int .i64 d] 25))
  have S1 := hide (Ad.slotR_below hR B0.out)
  have S2 := hide (Ad.slotR_below hR2 B0.out)
  have HF := hide hf
  have HF2 := hide hf2
  have HC := hide hcap
  have HSP := hide hsp
  have HC2 := hide hcap2
  have HSP2 := hide hsp2
  have HS0 : Hid (w.heap.size + 1 = (w.alloc (.cells #[.int .u32 c, .int .i64 d] 25)).heap.size) := by show _ = _; simp
  clear hR hf hR2 hf2 h1 h2 hcap hsp hcap2 hsp2
  go_enter Tryd.func5, Tryd.ntmps5
  generalize hW0 : w.alloc (.cells #[.int .u32 c, .int .i64 d] 25) = w0 at T0 B0 S1 S2 HS0
  have HW0 := hide hW0
  clear hW0
  go_wp2_with (at_builtin; go_must (refine append_slot (w0 := w0) rfl _ _ rfl _ 0 [] rfl ?c0 ao cap l rfl ?c1 HC.out HSP.out HN.out ?c2 ?_))
  case c0 =>
    rw [HW0.out, HS0.out]
    exact World.ownsRow_lit (base := w0.heap.size) (e := 32) (size := 5) w0 #[] 0 (Nat.le_refl _) (by decide) rfl
  case c1 => rw [HW0.out]; exact Ad.slotR_below S1.out (balloc (brefl w0) _)
  case c2 => rw [HW0.out]; exact balloc (brefl w0) _
  intro v3 w3 ho3 hb3
  obtain ⟨a3, c3, rfl⟩ := row_slice ho3
  have HO3 := hide ho3
  have S23 := hide (Ad.slotR_below S2.out hb3)
  have HN3 : Hid (l.length + l2.length ≤ 1000000) := by show _ ≤ _; have := HN2.out; omega
  have B3 := hide hb3
  clear ho3 hb3 HN HN2
  go_wp2_with (at_builtin; go_must (refine append_slot (w0 := w0) rfl _ _ rfl _ l.length l rfl ?c0 ao2 cap2 l2 rfl ?c1 HC2.out HSP2.out HN3.out ?c2 ?_))
  case c0 => exact HO3.out
  case c1 => exact S23.out
  case c2 => exact B3.out
  intro v4 w4 ho4 hb4
  obtain ⟨a4, c4, rfl⟩ := row_slice ho4
  rw [← List.length_append] at ho4 ⊢
  have HFL : Hid (Ad.fitsR (l ++ l2)) := by
    show ∀ x ∈ _, _
    intro y hy
    rcases List.mem_append.1 hy with h | h
    · exact HF.out y h
    · exact HF2.out y h
  have SL := hide (Ad.slotR_own ho4)
  generalize l ++ l2 = L at *
  have S14 := hide (Ad.slotR_below S1.out hb4)
  have S24 := hide (Ad.slotR_below S2.out hb4)
  have T4 := hide (two_below (w1 := w4) (n := w.heap.size) (a := c) (b := d) (W := w0) hb4 T0.out.1 T0.out.2.1)
  have B4 := hide hb4
  clear ho4 hb4 HO3 S23 B3 HN3 S1 S2 T0 HS0 HW0
  go_wp2_with fail
  refine (pmay_is a4 c4 L x HX.out _ SL.out HFL.out).mono ?_
  rintro e w5 ⟨rfl, hb5⟩
  have SL5 := hide (Ad.slotR_below SL.out hb5)
  have S15 := hide (Ad.slotR_below S14.out hb5)
  have S25 := hide (Ad.slotR_below S24.out hb5)
  have T5 := hide (two_below hb5 T4.out.1 T4.out.2.1)
  have B5 := hide (bthen B4.out hb5)
  clear hb5 SL S14 S24 T4 B4
  by_cases hx0 : x = 0
  · subst hx0
    obtain ⟨t0, t1, t2, t3⟩ := T5.out
    go_wp2_with fail
    refine (refMay_is _ _ _ HP.out _ hc hc2).mono ?_
    rintro e w6 ⟨rfl, hb6⟩
    have SL6 := hide (Ad.slotR_below SL5.out hb6)
    have S16 := hide (Ad.slotR_below S15.out hb6)
    have S26 := hide (Ad.slotR_below S25.out hb6)
    have T6 := hide (two_below hb6 T5.out.1 T5.out.2.1)
    have B6 := hide (bthen B5.out hb6)
    clear hb6 SL5 S15 S25 T5 B5 t0 t1 t2 t3
    cases rp
    · go_wp2_with fail
      refine (lives_any _).mono ?_
      rintro e w7 ⟨rfl, hb7⟩
      go_wp2_with fail
      go_ret
      exact ⟨rfl, bthen (bthen B0.out B6.out) hb7⟩
    · obtain ⟨t0, t1, t2, t3⟩ := T6.out
      go_wp2_with fail
      refine (lets_is ao cap l c d i1 r1 L1.out _ S16.out HF.out hc hc2).mono ?_
      rintro e w7 ⟨rfl, hb7⟩
      have SL7 := hide (Ad.slotR_below SL6.out hb7)
      have S27 := hide (Ad.slotR_below S26.out hb7)
      have T7 := hide (two_below hb7 T6.out.1 T6.out.2.1)
      have B7 := hide (bthen B6.out hb7)
      clear hb7 SL6 S16 S26 T6 B6 t0 t1 t2 t3
      obtain ⟨t0, t1, t2, t3⟩ := T7.out
      go_wp2_with fail
      refine (lets_is ao2 cap2 l2 c d i2 r2 L2.out _ S27.out HF2.out hc hc2).mono ?_
      rintro e w8 ⟨rfl, hb8⟩
      have SL8 := hide (Ad.slotR_below SL7.out hb8)
      have T8 := hide (two_below hb8 T7.out.1 T7.out.2.1)
      have B8 := hide (bthen B7.out hb8)
      clear hb8 SL7 S27 T7 B7 t0 t1 t2 t3
      obtain ⟨t0, t1, t2, t3⟩ := T8.out
      go_wp2_with fail
      refine (lets_is a4 c4 L c d i3 r3 L3.out _ SL8.out HFL.out hc hc2).mono ?_
      rintro e w9 ⟨rfl, hb9⟩
      have B9 := hide (bthen B8.out hb9)
      clear hb9 SL8 T8 B8 t0 t1 t2 t3 HX HP L1 L2 L3
      have hE := HE.out (by first | rfl | trivial)
      clear HE
      rcases hE with ⟨q1, rfl, rfl⟩ | ⟨q1, q2, q3, rfl⟩ | ⟨q1, q2, q3, rfl, rfl⟩
      · go_wp2_with fail
        refine (lives_any _).mono ?_
        rintro e w10 ⟨rfl, hb10⟩
        go_wp2_with fail
        go_ret
        exact ⟨rfl, bthen (bthen B0.out B9.out) hb10⟩
      · have q1' : ¬ 0 ≤ i1 := by omega
        go_wp2_with fail
        refine (lives_any _).mono ?_
        rintro e w10 ⟨rfl, hb10⟩
        go_wp2_with fail
        go_ret
        exact ⟨rfl, bthen (bthen B0.out B9.out) hb10⟩
      · have q1' : ¬ 0 ≤ i1 := by omega
        have q4 : ¬ i2 < 0 := by omega
        go_wp2_with fail
        refine (lives_any _).mono ?_
        rintro e w10 ⟨rfl, hb10⟩
        go_wp2_with fail
        go_ret
        exact ⟨rfl, bthen (bthen B0.out B9.out) hb10⟩
  · have hne : (x != 0) = true := by simpa using hx0
    go_wp2_with fail
    refine (lives_any _).mono ?_
    rintro e w7 ⟨rfl, hb7⟩
    go_wp2_with fail
    go_ret
    exact ⟨rfl, bthen (bthen B0.out B5.out) hb7⟩

theorem behind_any (ao ao2 : Option Addr) (cap cap2 : Nat) (l l2 : List Ad.R) (c d : Int) (w : World) (hR : Ad.slotR w ao l) (hf : Ad.fitsR l) (hR2 : Ad.slotR w ao2 l2) (hf2 : Ad.fitsR l2) (hc : 0 ≤ c) (hc2 : c ≤ 4294967295)
    (hcap : ao = none → cap = 0) (hsp : ∀ ad, ao = some ad → ad.spot = none) (hcap2 : ao2 = none → cap2 = 0) (hsp2 : ∀ ad, ao2 = some ad → ad.spot = none) :
    Calls Tryd.prog 5 #[.slice ao l.length cap, .slice ao2 l2.length cap2, .agg #[.int .u32 c, .int .i64 d]] w fun e w' => e = .returned (.bool true) ∧ Below w.heap.size w w' := by
  by_cases h1 : l.length ≤ 16
  · by_cases h2 : l2.length ≤ 16
    · exact behind_short ao ao2 cap cap2 l l2 c d _ _ _ _ _ _ _ _ w hR hf hR2 hf2 hc hc2 h1 h2 hcap hsp hcap2 hsp2 rfl rfl rfl rfl rfl (show _ → _ from fun h => Ad.lets_ends l l2 c d h)
    · exact behind_long ao ao2 l.length l2.length cap cap2 c d w (.inr ⟨h1, by omega⟩)
  · exact behind_long ao ao2 l.length l2.length cap cap2 c d w (.inl (by omega))
end Go.Proofs.YtkpoanjcalolkaaDoor
