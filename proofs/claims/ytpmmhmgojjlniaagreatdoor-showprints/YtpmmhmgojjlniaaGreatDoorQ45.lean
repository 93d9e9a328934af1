/- What a configuration that may be is, as the document asks it. -/
import Derived.Test.YtpmmhmgojjlniaaGreatDoorQ27
import Derived.Test.YtpmmhmgojjlniaaGreatDoorQ33
import Derived.Test.YtpmmhmgojjlniaaGreatDoorQ42
import Derived.Test.YtpmmhmgojjlniaaGreatDoorQ44
import Derived.Lib.AppendIntMem
import Derived.Lib.ItoaLen
import Derived.Laws.IdiomStrings
import Derived.Laws.Concat
namespace Go.Proofs.YtpmmhmgojjlniaaGreatDoor
open Go.RowKit Go.Sort
theorem rcl_iff (c : Cl) (last : Int) : rcl c last = true ↔ last < c.n ∧ c.n ≤ 65535 ∧ matchOk c.m = true ∧ setOk c.s = true := by
  have ha : (Ar.Is.as : Int → Bool) = fun n => inR n 1 65535 := funext as_inR
  unfold rcl matchOk setOk commsOkB Ar.Is.may pathOkB
  rw [ha]
  simp only [inR, Bool.and_eq_true, decide_eq_true_eq]
  constructor
  · rintro ⟨⟨⟨⟨⟨⟨⟨⟨⟨⟨⟨⟨⟨h1, h2⟩, h3⟩, h4⟩, h5⟩, h6⟩, h7⟩, h8⟩, h9⟩, h10⟩, h11⟩, h12, h13⟩, h14, h15⟩, h16, h17⟩
    exact ⟨h1, h2, ⟨⟨h3, h4⟩, h5⟩, ⟨⟨⟨⟨⟨h6, h7⟩, h8, h9⟩, h10, h11⟩, by omega, h13⟩, by omega, h15⟩, by omega, h17⟩
  · rintro ⟨h1, h2, ⟨⟨h3, h4⟩, h5⟩, ⟨⟨⟨⟨⟨h6, h7⟩, h8, h9⟩, h10, h11⟩, h12, h13⟩, h14, h15⟩, h16, h17⟩
    exact ⟨⟨⟨⟨⟨⟨⟨⟨⟨⟨⟨⟨⟨h1, h2⟩, h3⟩, h4⟩, h5⟩, h6⟩, h7⟩, h8⟩, h9⟩, h10⟩, h11⟩, by omega, h13⟩, by omega, h15⟩, by omega, h17⟩
/-- The number ahead of a clause. -/
def lastAt (l : List Cl) : Nat → Int
  | 0 => 0
  | k + 1 => match l[k]? with
    | some c => c.n
    | none => 0
theorem lastAt_succ {l : List Cl} {k : Nat} (h : k < l.length) : lastAt l (k + 1) = l[k].n := by
  show (match l[k]? with | some c => c.n | none => 0) = _
  rw [List.getElem?_eq_getElem h]
theorem clsOk_iff (l : List Cl) : clsOk l = true ↔ l.length ≤ 16 ∧ ∀ k (h : k < l.length), rcl l[k] (lastAt l k) = true := by
  unfold clsOk
  simp only [Bool.and_eq_true, decide_eq_true_eq, List.all_eq_true, riseB_iff]
  constructor
  · rintro ⟨⟨h1, h2⟩, h3⟩
    refine ⟨by omega, fun k hk => ?_⟩
    have hc := h2 _ (List.getElem_mem hk)
    simp only [clOk, Bool.and_eq_true] at hc
    have hn := hc.1.1
    simp only [inR, Bool.and_eq_true, decide_eq_true_eq] at hn
    refine (rcl_iff _ _).2 ⟨?_, hn.2, hc.1.2, hc.2⟩
    cases k with
    | zero => show (0 : Int) < _; omega
    | succ k => rw [lastAt_succ (by omega)]; exact h3 k hk
  · rintro ⟨h1, h2⟩
    have h3 : ∀ k (hk : k < l.length), 1 ≤ l[k].n := by
      intro k
      induction k with
      | zero => intro hk; have := ((rcl_iff _ _).1 (h2 0 hk)).1; have e : lastAt l 0 = 0 := rfl; omega
      | succ k ih => intro hk; have := ((rcl_iff _ _).1 (h2 (k + 1) hk)).1; rw [lastAt_succ (by omega)] at this; have := ih (by omega); omega
    refine ⟨⟨by omega, fun x hx => ?_⟩, fun k hk => ?_⟩
    · obtain ⟨k, hk, rfl⟩ := List.getElem_of_mem hx
      obtain ⟨_, g2, g3, g4⟩ := (rcl_iff _ _).1 (h2 k hk)
      simp only [clOk, Bool.and_eq_true]
      exact ⟨⟨by simp only [inR, Bool.and_eq_true, decide_eq_true_eq]; exact ⟨h3 k hk, g2⟩, g3⟩, g4⟩
    · have := ((rcl_iff _ _).1 (h2 (k + 1) hk)).1
      rw [lastAt_succ (by omega)] at this
      exact this
theorem rules_iff {l : List Rg} (hu : ∀ r ∈ l, U32 r.ad) : rulesOk l = true ↔ Ax.Ad.rwhy (l.map rgT) = 0 := by
  unfold rulesOk Ax.Ad.rwhy
  rw [List.length_map, Bool.and_eq_true, decide_eq_true_eq, List.all_map]
  have e : l.all (Ax.Ad.rmay ∘ rgT) = l.all rgOk := by
    rw [Bool.eq_iff_iff, List.all_eq_true, List.all_eq_true]
    constructor
    · intro h r hr
      have := h r hr
      simp only [Function.comp, Ax.Ad.rmay, rgT, Bool.and_eq_true] at this
      simp only [rgOk, Ax.Ad.rmayX, rgT, Bool.and_eq_true]
      exact ⟨⟨⟨may_mayX (hu r hr) this.1.1.1, this.1.1.2⟩, this.1.2⟩, this.2⟩
    · intro h r hr
      exact rgOk_may (hu r hr) (h r hr)
  rw [e]
  by_cases h : 16 < l.length
  · rw [if_pos h]
    constructor
    · rintro ⟨h1, _⟩; omega
    · intro h1; cases h1
  · rw [if_neg h]
    cases l.all rgOk with
    | true => simp; omega
    | false => simp
structure CfD (c : Cf) : Prop where
  lists : c.lists.length ≤ 16
  maps : c.maps.length ≤ 16
  routers : c.routers.length ≤ 8
  list : ∀ i (h : i < c.lists.length), rnm2 c.lists[i].name ((c.lists.take i).map Ls.name) = true ∧ Ax.Ad.rwhy (c.lists[i].rules.map rgT) = 0
  map : ∀ i (h : i < c.maps.length), rnm2 c.maps[i].name ((c.maps.take i).map Mp.name) = true ∧ c.maps[i].cls.length ≤ 16 ∧ ∀ k (h : k < c.maps[i].cls.length), rcl c.maps[i].cls[k] (lastAt c.maps[i].cls k) = true
  router : ∀ i (h : i < c.routers.length), rnm2 c.routers[i].name ((c.routers.take i).map Rt.name) = true ∧ rtOk c.routers[i] = true
theorem cfOk_iff {c : Cf} (hw : Wide c) : cfOk c = true ↔ CfD c := by
  constructor
  · intro h
    simp only [cfOk, Bool.and_eq_true, decide_eq_true_eq, List.all_eq_true] at h
    obtain ⟨⟨⟨⟨h1, h2⟩, u1⟩, ⟨h3, h4⟩, u2⟩, ⟨h5, h6⟩, u3⟩ := h
    refine ⟨by omega, by omega, by omega, fun i hi => ?_, fun i hi => ?_, fun i hi => ?_⟩
    · have := h2 _ (List.getElem_mem hi)
      exact ⟨(rnm2_iff _ _).2 ⟨(uniq_take _ _).1 u1 i hi, this.1⟩, (rules_iff (hw.1 _ (List.getElem_mem hi))).1 this.2⟩
    · have := h4 _ (List.getElem_mem hi)
      exact ⟨(rnm2_iff _ _).2 ⟨(uniq_take _ _).1 u2 i hi, this.1⟩, ((clsOk_iff _).1 this.2).1, ((clsOk_iff _).1 this.2).2⟩
    · have := h6 _ (List.getElem_mem hi)
      exact ⟨(rnm2_iff _ _).2 ⟨(uniq_take _ _).1 u3 i hi, this.1⟩, this.2⟩
  · rintro ⟨h1, h2, h3, h4, h5, h6⟩
    simp only [cfOk, Bool.and_eq_true, decide_eq_true_eq, List.all_eq_true]
    refine ⟨⟨⟨⟨by omega, fun x hx => ?_⟩, (uniq_take _ _).2 fun i h => ((rnm2_iff _ _).1 (h4 i h).1).1⟩, ⟨by omega, fun x hx => ?_⟩, (uniq_take _ _).2 fun i h => ((rnm2_iff _ _).1 (h5 i h).1).1⟩, ⟨by omega, fun x hx => ?_⟩, (uniq_take _ _).2 fun i h => ((rnm2_iff _ _).1 (h6 i h).1).1⟩
    · obtain ⟨i, hi, rfl⟩ := List.getElem_of_mem hx
      exact ⟨((rnm2_iff _ _).1 (h4 i hi).1).2, (rules_iff (hw.1 _ (List.getElem_mem hi))).2 (h4 i hi).2⟩
    · obtain ⟨i, hi, rfl⟩ := List.getElem_of_mem hx
      exact ⟨((rnm2_iff _ _).1 (h5 i hi).1).2, (clsOk_iff _).2 ⟨(h5 i hi).2.1, (h5 i hi).2.2⟩⟩
    · obtain ⟨i, hi, rfl⟩ := List.getElem_of_mem hx
      exact ⟨((rnm2_iff _ _).1 (h6 i hi).1).2, (h6 i hi).2⟩
theorem fits_rules {l : List Rg} (hu : ∀ r ∈ l, U32 r.ad) : Ax.Ad.fitsR (l.map rgT) := by
  intro x hx
  obtain ⟨r, hr, rfl⟩ := List.mem_map.1 hx
  exact hu r hr
end Go.Proofs.YtpmmhmgojjlniaaGreatDoor
namespace Go.Proofs.YtpmmhmgojjlniaaGreatDoor.Cm
open Go.RowKit Go.Sort
set_option maxHeartbeats 1000000 in
set_option maxRecDepth 100000 in
theorem refNumber_any (n : Int) (h0 : 0 ≤ n) (h1 : n ≤ 4294967295) (w : World) :
    Calls Tryz.prog 95 #[.int .i64 n] w fun e w' => e = .returned (.string ⟨(Lib.itoa n).toArray⟩) ∧ Below w.heap.size w w' := by
  go_enter Tryz.func95, Tryz.ntmps95
  go_wp2_with fail
  go_loopw [0, 3] (fun i s wr => ∃ (m : Int) (ds : List UInt8), 0 ≤ m ∧ m ≤ 4294967295 ∧ i = .int .i64 m ∧ s = .string ⟨ds.toArray⟩ ∧ Hid (Lib.decDigits m.toNat ++ ds = Lib.itoa n) ∧ Below w.heap.size w wr) (fun i _ _ => (intOf i).toNat)
  case atStart =>
    refine ⟨n, [], h0, h1, rfl, rfl, ?_, brefl w⟩
    show _ = _
    rw [List.append_nil]
    unfold Lib.itoa
    rw [if_neg (by omega)]
  case round =>
    obtain ⟨m, ds, hm0, hm1, rfl, rfl, HD, hb⟩ := hrel
    have hl : ds.length ≤ 21 := by
      have h1 := Lib.itoa_length_le n (by omega) (by omega)
      have h2 := congrArg List.length HD.out
      rw [List.length_append] at h2
      omega
    have hl' : 1 + ds.length ≤ 9223372036854775807 := by omega
    by_cases hlt : m < 10
    · have hone := one_byte wr (48 + m) (by omega) (by omega)
      have HE : Hid ([UInt8.ofNat (48 + m).toNat] ++ ds = Lib.itoa n) := by
        show _ = _
        rw [← HD.out, Lib.decDigits_one (by omega)]
        have e : (48 + m).toNat = 48 + m.toNat := by omega
        rw [e]
      go_wp2_with fail
      refine bodyPost_ret (v := .string ⟨(Lib.itoa n).toArray⟩) ?_ rfl ⟨rfl, balloc hb _⟩
      rw [← HE.out, ← ba_app]
      simp [results, Tryz.results95, go_sem]
    · have hone := one_byte wr (48 + m % 10) (by omega) (by omega)
      have HE : Hid (Lib.decDigits (m / 10).toNat ++ ([UInt8.ofNat (48 + m % 10).toNat] ++ ds) = Lib.itoa n) := by
        show _ = _
        rw [← HD.out]
        have e : m.toNat = 10 * (m / 10).toNat + (m % 10).toNat := by omega
        have e2 : (48 + m % 10).toNat = 48 + (m % 10).toNat := by omega
        rw [e, e2, dec_step _ _ (by omega) (by omega), List.append_assoc]
      go_wp2_with fail
      refine ⟨⟨m / 10, [UInt8.ofNat (48 + m % 10).toNat] ++ ds, by omega, by omega, rfl, ?_, HE, balloc hb _⟩, by simp [intOf]; omega⟩
      rw [← ba_app]
theorem refNumber_is (n : Int) (t : ByteArray) (h0 : 0 ≤ n) (h1 : n ≤ 65535) (ht : t = ⟨(Lib.itoa n).toArray⟩) (w : World) :
    Calls Tryz.prog 95 #[.int .i64 n] w fun e w' => e = .returned (.string t) ∧ Below w.heap.size w w' := by
  subst ht
  exact refNumber_any n h0 (by omega) w
end Go.Proofs.YtpmmhmgojjlniaaGreatDoor.Cm
namespace Go.Proofs.YtpmmhmgojjlniaaGreatDoor.Cm
open Go.RowKit Go.Sort
set_option maxHeartbeats 1000000 in
theorem refText_not (a b : Int) (w : World) (M : Hid (Co.may (a, b) = false)) : Calls Tryz.prog 168 #[.agg #[.int .i64 a, .int .i64 b]] w fun e w' => e = .returned (.string ⟨#[]⟩) ∧ Below w.heap.size w w' := by
  go_enter Tryz.func168, Tryz.ntmps168
  go_wp2_with fail
  refine (refMay_is _ _ _ M.out _).mono ?_
  rintro e w1 ⟨rfl, hb1⟩
  go_wp2_with fail
  go_ret
  exact ⟨rfl, bthen (balloc (brefl w) _) hb1⟩

set_option maxHeartbeats 1000000 in
theorem refText_known (b : Int) (w : World) (h : b = 65281 ∨ b = 65282 ∨ b = 65283) : Calls Tryz.prog 168 #[.agg #[.int .i64 65535, .int .i64 b]] w fun e w' => e = .returned (.string ⟨(Co.text 65535 b).toArray⟩) ∧ Below w.heap.size w w' := by
  rcases h with rfl | rfl | rfl
  · have CM := hide (fun W => refMay_is 65535 65281 true Co.may1 W)
    have HT : Hid ((⟨#[110, 111, 45, 101, 120, 112, 111, 114, 116]⟩ : ByteArray) = ⟨(Co.text 65535 65281).toArray⟩) := rfl
    generalize (⟨(Co.text 65535 65281).toArray⟩ : ByteArray) = t at *
    go_enter Tryz.func168, Tryz.ntmps168
    go_wp2_with fail
    refine (CM.out _).mono ?_
    rintro e w1 ⟨rfl, hb1⟩
    obtain ⟨p0, p1, p2, p3⟩ := two_below hb1 (two_new w 65535 65281 53)
    have B1 := hide (bthen (balloc (brefl w) _) hb1)
    clear hb1
    go_wp2_with fail
    go_ret
    exact ⟨by rw [← HT.out]; rfl, B1.out⟩
  · have CM := hide (fun W => refMay_is 65535 65282 true Co.may2 W)
    have HT : Hid ((⟨#[110, 111, 45, 97, 100, 118, 101, 114, 116, 105, 115, 101]⟩ : ByteArray) = ⟨(Co.text 65535 65282).toArray⟩) := rfl
    generalize (⟨(Co.text 65535 65282).toArray⟩ : ByteArray) = t at *
    go_enter Tryz.func168, Tryz.ntmps168
    go_wp2_with fail
    refine (CM.out _).mono ?_
    rintro e w1 ⟨rfl, hb1⟩
    obtain ⟨p0, p1, p2, p3⟩ := two_below hb1 (two_new w 65535 65282 53)
    have B1 := hide (bthen (balloc (brefl w) _) hb1)
    clear hb1
    go_wp2_with fail
    go_ret
    exact ⟨by rw [← HT.out]; rfl, B1.out⟩
  · have CM := hide (fun W => refMay_is 65535 65283 true Co.may3 W)
    have HT : Hid ((⟨#[108, 111, 99, 97, 108]⟩ : ByteArray) = ⟨(Co.text 65535 65283).toArray⟩) := rfl
    generalize (⟨(Co.text 65535 65283).toArray⟩ : ByteArray) = t at *
    go_enter Tryz.func168, Tryz.ntmps168
    go_wp2_with fail
    refine (CM.out _).mono ?_
    rintro e w1 ⟨rfl, hb1⟩
    obtain ⟨p0, p1, p2, p3⟩ := two_below hb1 (two_new w 65535 65283 53)
    have B1 := hide (bthen (balloc (brefl w) _) hb1)
    clear hb1
    go_wp2_with fail
    go_ret
    exact ⟨by rw [← HT.out]; rfl, B1.out⟩

set_option maxHeartbeats 2000000 in
set_option maxRecDepth 100000 in
theorem refText_plain (a b : Int) (t0 t1 u0 u1 : ByteArray) (w : World) (M : Hid (Co.may (a, b) = true)) (hk : a ≠ 65535 ∨ (a = 65535 ∧ (b == 65281) = false ∧ (b == 65282) = false ∧ (b == 65283) = false))
    (K0 : Adds t0 ⟨#[58]⟩ u0) (K1 : Adds u0 t1 u1) (N0 : Hid (t0 = ⟨(Lib.itoa a).toArray⟩)) (N1 : Hid (t1 = ⟨(Lib.itoa b).toArray⟩)) :
    Calls Tryz.prog 168 #[.agg #[.int .i64 a, .int .i64 b]] w fun e w' => e = .returned (.string u1) ∧ Below w.heap.size w w' := by
  unfold Adds at *
  have hm := (Co.may_iff a b).1 M.out
  have TB := hide (two_new w a b 53)
  have B0 := hide (balloc (brefl w) (.cells #[.int .i64 a, .int .i64 b] 53))
  rcases hk with hk | ⟨hk, hk1, hk2, hk3⟩
  · have hd : (a == 65535) = false := by simpa using hk
    go_enter Tryz.func168, Tryz.ntmps168
    go_wp2_with fail
    refine (refMay_is _ _ _ M.out _).mono ?_
    rintro e w1 ⟨rfl, hb1⟩
    have T1 := hide (two_below hb1 TB.out)
    obtain ⟨p0, p1, p2, p3⟩ := T1.out
    have B1 := hide (bthen B0.out hb1)
    clear hb1
    go_wp2_with fail
    obtain ⟨c0, c1⟩ := two_regrown T1.out
    clear p0 p1 p2 p3
    refine wp_region_quiet_below (by kernel_rfl) (by kernel_rfl) ?_
    iterate 3 (go_big_quiet_step ((go_at_call 95; exact Calls.regrown_of (refNumber_is _ t0 (by omega) (by omega) N0.out _))))
    iterate 6 (go_big_quiet_step ((go_at_call 95; exact Calls.regrown_of (refNumber_is _ t1 (by omega) (by omega) N1.out _))))
    refine wpQuiet_nil ?_
    rintro w8 ⟨⟨dd, os⟩, hw8⟩
    have hb8 : Below w1.heap.size w1 w8 := by rw [hw8]; exact below_regrown _ dd os
    have B8 := hide (bthen B1.out hb8)
    clear hb8 hw8 c0 c1
    go_wp2_with fail
    go_ret
    exact ⟨rfl, B8.out⟩
  · subst hk
    go_enter Tryz.func168, Tryz.ntmps168
    go_wp2_with fail
    refine (refMay_is _ _ _ M.out _).mono ?_
    rintro e w1 ⟨rfl, hb1⟩
    have T1 := hide (two_below hb1 TB.out)
    obtain ⟨p0, p1, p2, p3⟩ := T1.out
    have B1 := hide (bthen B0.out hb1)
    clear hb1
    go_wp2_with fail
    obtain ⟨c0, c1⟩ := two_regrown T1.out
    clear p0 p1 p2 p3
    refine wp_region_quiet_below (by kernel_rfl) (by kernel_rfl) ?_
    iterate 3 (go_big_quiet_step ((go_at_call 95; exact Calls.regrown_of (refNumber_is _ t0 (by omega) (by omega) N0.out _))))
    iterate 6 (go_big_quiet_step ((go_at_call 95; exact Calls.regrown_of (refNumber_is _ t1 (by omega) (by omega) N1.out _))))
    refine wpQuiet_nil ?_
    rintro w8 ⟨⟨dd, os⟩, hw8⟩
    have hb8 : Below w1.heap.size w1 w8 := by rw [hw8]; exact below_regrown _ dd os
    have B8 := hide (bthen B1.out hb8)
    clear hb8 hw8 c0 c1
    go_wp2_with fail
    go_ret
    exact ⟨rfl, B8.out⟩

theorem refText_is (a b : Int) (t : ByteArray) (ht : t = ⟨(Co.text a b).toArray⟩) (w : World) :
    Calls Tryz.prog 168 #[.agg #[.int .i64 a, .int .i64 b]] w fun e w' => e = .returned (.string t) ∧ Below w.heap.size w w' := by
  subst ht
  cases hm : Co.may (a, b)
  · have e : Co.text a b = [] := by unfold Co.text; rw [hm]; rfl
    rw [e]
    exact refText_not a b w hm
  · by_cases hk : a = 65535 ∧ (b = 65281 ∨ b = 65282 ∨ b = 65283)
    · obtain ⟨rfl, hk⟩ := hk
      exact refText_known b w hk
    · have e : Co.text a b = Co.plain a b := by
        unfold Co.text
        rw [if_pos hm, if_neg (fun h => hk ⟨h.1, .inl h.2⟩), if_neg (fun h => hk ⟨h.1, .inr (.inl h.2)⟩), if_neg (fun h => hk ⟨h.1, .inr (.inr h.2)⟩)]
      rw [e]
      have hr := (Co.may_iff a b).1 hm
      have l0 := itoa_len a (by omega) (by omega)
      have l1 := itoa_len b (by omega) (by omega)
      refine refText_plain a b _ _ _ _ w hm ?_ (adds_list _ [58] (by omega) (by decide)) (adds_list _ _ (by simp; omega) (by omega)) rfl rfl
      by_cases ha : a = 65535
      · exact .inr ⟨ha, by simp; intro h; exact hk ⟨ha, .inl h⟩, by simp; intro h; exact hk ⟨ha, .inr (.inl h)⟩, by simp; intro h; exact hk ⟨ha, .inr (.inr h)⟩⟩
      · exact .inl ha
end Go.Proofs.YtpmmhmgojjlniaaGreatDoor.Cm
namespace Go.Proofs.YtpmmhmgojjlniaaGreatDoor
open Go.RowKit Go.Sort
/-- Two strings become one. -/
def AddsTo (x y z : ByteArray) : Prop := ∀ W : World, (Op.stringOp .add x y).run Tryz.prog W = .ok (.string z) W
theorem adds_to (x y : List UInt8) (h : x.length + y.length ≤ 1000000) : AddsTo ⟨x.toArray⟩ ⟨y.toArray⟩ ⟨(x ++ y).toArray⟩ :=
  Ax.adds_mk ⟨x.toArray⟩ ⟨y.toArray⟩ ⟨(x ++ y).toArray⟩ (by
    have : (1000000 : Nat) ≤ maxLen := by decide
    show x.toArray.size + y.toArray.size ≤ maxLen
    simp only [List.size_toArray]; omega) (Ax.Ad.ba_app x y)
def comsL (l : List (Int × Int)) : List UInt8 := l.flatMap fun p => 32 :: Cm.Co.text p.1 p.2
theorem comsL_succ (l : List (Int × Int)) (k : Nat) (h : k < l.length) : comsL (l.take (k + 1)) = comsL (l.take k) ++ [32] ++ Cm.Co.text l[k].1 l[k].2 := by
  unfold comsL
  rw [List.take_succ_eq_append_getElem h, List.flatMap_append]
  simp
theorem coText_len (a b : Int) : (Cm.Co.text a b).length ≤ 60 := by
  have := commT_size (a, b)
  unfold commT at this
  have e : (ByteArray.mk (Cm.Co.text a b).toArray).size = (Cm.Co.text a b).length := by simp [ByteArray.size]
  simp only at this
  omega
theorem comsL_len (l : List (Int × Int)) : (comsL l).length ≤ 61 * l.length := by
  induction l with
  | nil => exact Nat.le_refl _
  | cons p l ih =>
    have e : comsL (p :: l) = 32 :: Cm.Co.text p.1 p.2 ++ comsL l := rfl
    rw [e, List.length_append, List.length_cons, List.length_cons]
    have := coText_len p.1 p.2
    omega
set_option maxHeartbeats 4000000 in
set_option maxRecDepth 100000 in
theorem comms_is (l : List (Int × Int)) (v : Value) (w : World) (h : Rd w 2 PrR v l) (hl : l.length ≤ 900) :
    Calls Tryz.prog 96 #[v] w fun e w' => e = .returned (.string ⟨(comsL l).toArray⟩) ∧ Below w.heap.size w w' := by
  obtain ⟨ao, ca, rfl⟩ := h.slice
  have R1 := hide h
  have HE : Hid ((⟨(comsL (l.take l.length)).toArray⟩ : ByteArray) = ⟨(comsL l).toArray⟩) := by show _ = _; rw [List.take_length]
  obtain ⟨T, hT⟩ : ∃ T : ByteArray, ⟨(comsL l).toArray⟩ = T := ⟨_, rfl⟩
  rw [hT] at HE ⊢
  clear h hT
  go_enter Tryz.func96, Tryz.ntmps96
  go_wp2_with fail
  go_loopw [3, 4] (fun v3 v4 wr => ∃ (k : Nat) (s : ByteArray), v4 = .int .i64 k ∧ v3 = .string s ∧ k ≤ l.length ∧ Hid (s = ⟨(comsL (l.take k)).toArray⟩) ∧ Hid (Below w.heap.size w wr)) (fun _ v4 _ => l.length - (intOf v4).toNat)
  case atStart => exact ⟨0, ⟨#[]⟩, rfl, rfl, Nat.zero_le _, rfl, Below.refl _ w⟩
  case round =>
    obtain ⟨k, s, rfl, rfl, hk, HS, HBR⟩ := hrel
    by_cases hkl : k < l.length
    · have hkl' : (k : Int) < (l.length : Int) := by omega
      obtain ⟨b2, off, xs, rfl, hb2, hx, hxc⟩ := R1.out.at_ hkl
      obtain rfl : xs = [.int .i64 l[k].1, .int .i64 l[k].2] := hx
      have a0 := (HBR.out.cell (p := ⟨b2, off + k * 2, none⟩) hb2).trans (hxc 0 _ rfl)
      have a1 := (HBR.out.cell (p := ⟨b2, off + k * 2 + 1, none⟩) hb2).trans (hxc 1 _ rfl)
      clear hxc
      have HN := hide (comsL_succ l k hkl)
      have hc1 := comsL_len (l.take k)
      rw [List.length_take] at hc1
      have hc2 := coText_len l[k].1 l[k].2
      generalize l[k] = q at *
      obtain ⟨u, hu⟩ : ∃ u : ByteArray, u = ⟨(Cm.Co.text q.1 q.2).toArray⟩ := ⟨_, rfl⟩
      obtain ⟨s1, hs1⟩ : ∃ u : ByteArray, u = ⟨(comsL (l.take k) ++ [32]).toArray⟩ := ⟨_, rfl⟩
      obtain ⟨s2, hs2⟩ : ∃ u : ByteArray, u = ⟨(comsL (l.take k) ++ [32] ++ Cm.Co.text q.1 q.2).toArray⟩ := ⟨_, rfl⟩
      have K0 : AddsTo s ⟨#[32]⟩ s1 := by
        rw [HS.out, hs1]
        exact adds_to _ [32] (by show _ + 1 ≤ _; omega)
      have K1 : AddsTo s1 u s2 := by
        rw [hs1, hs2, hu]
        exact adds_to _ _ (by rw [List.length_append]; show _ + 1 + _ ≤ _; omega)
      have HS2 : Hid (s2 = ⟨(comsL (l.take (k + 1))).toArray⟩) := by show _ = _; rw [hs2, HN.out]
      have CN := hide (fun W => Cm.refText_is q.1 q.2 u hu W)
      clear hu hs1 hs2 hc1 hc2 HN HS
      unfold AddsTo at K0 K1
      go_wp2_with fail
      refine (CN.out _).mono ?_
      rintro e w3 ⟨rfl, hb3⟩
      have B3 := hide (bthen HBR.out hb3)
      clear hb3 HBR
      go_wp2_with fail
      exact ⟨⟨k + 1, s2, by go_num, rfl, by omega, HS2, B3⟩, by simp [intOf] <;> omega⟩
    · have hkl' : ¬ (k : Int) < (l.length : Int) := by omega
      obtain rfl : k = l.length := by omega
      have HF : Hid (s = T) := by show _ = _; rw [HS.out, HE.out]
      clear HS HE
      go_wp2_with fail
      go_ret
      exact ⟨by rw [← HF.out]; rfl, HBR.out⟩
end Go.Proofs.YtpmmhmgojjlniaaGreatDoor
