/- The document's path, comms. -/
import Derived.Test.YtpmmhmgojjlniaaGreatDoorQ03
import Derived.Test.YtpmmhmgojjlniaaGreatDoorQ21
import Derived.Test.YtpmmhmgojjlniaaGreatDoorQ27
import Derived.Test.YtpmmhmgojjlniaaGreatDoorQ29
import Derived.Lib.ItoaLen
import Derived.Lib.AppendIntMem
import Derived.Laws.IdiomStrings
import Derived.Laws.Concat
import Derived.Lib.Join
namespace Go.Proofs.YtpmmhmgojjlniaaGreatDoor
open Go.RowKit Go.Sort
def pathOkB (s : ByteArray) : Bool := decide (Ar.asF s = 0)
def Chb (c : UInt8) : Bool := decide (32 ≤ (c.toNat : Int)) && decide ((c.toNat : Int) ≤ 126) && decide ((c.toNat : Int) ≠ 34)
theorem path_bad {s : ByteArray} {i : Nat} (h : i < s.size) (hb : Chb s[i] = false) : pathOkB s = false := by
  unfold pathOkB
  refine decide_eq_false fun e => ?_
  obtain ⟨_, h2⟩ := Ar.asF_chr (s := s) (n := 0) e
  have hm : s[i] ∈ s.data.toList := by
    have : s[i] = s.data.toList[i]'(by simpa using h) := by simp [ByteArray.getElem_eq_getElem_data]
    rw [this]
    exact List.getElem_mem _
  obtain ⟨a, b, d⟩ := h2 _ hm
  simp only [Chb] at hb
  rw [decide_eq_true (show 32 ≤ (s[i].toNat : Int) by omega), decide_eq_true (show (s[i].toNat : Int) ≤ 126 by omega), decide_eq_true (show (s[i].toNat : Int) ≠ 34 by omega)] at hb
  cases hb
theorem asF_ok {s : ByteArray} {x : Bool × Bool × List (List Ar.Nd)} (h : Ar.Px.parse s.data.toList = .ok x) : Ar.asF s = 0 := by unfold Ar.asF; rw [h]
theorem asF_err {s : ByteArray} {q : Int} (h : Ar.Px.parse s.data.toList = .error q) : Ar.asF s = q := by unfold Ar.asF; rw [h]
/-- The document's Parse, as far as its error goes. -/
theorem rparse_is (s : ByteArray) (w : World) : Calls Tryz.prog 139 #[.string s] w fun e w' => (∃ (f l : Bool) (x0 x1 x2 x3 x4 x5 : Value), Ar.One6 x0 x1 x2 x3 x4 x5 ∧ e = .returned (.tuple #[.agg #[.bool f, .bool l, x0, x1, x2, x3, x4, x5], .int .i64 (Ar.asF s)])) ∧ Below w.heap.size w w' := by
  refine (Ar.refParse_of s (fun h => Ar.refChoice_is s h) w).mono ?_
  rintro e w' ⟨hb, hm⟩
  refine ⟨?_, hb⟩
  cases hp : Ar.Px.parse s.data.toList with
  | ok x =>
    rw [hp] at hm
    obtain ⟨f, l, rows⟩ := x
    obtain ⟨x0, x1, x2, x3, x4, x5, ht, rfl⟩ := hm
    exact ⟨f, l, x0, x1, x2, x3, x4, x5, Ar.Tr.one5 ht, by rw [asF_ok hp]⟩
  | error q =>
    rw [hp] at hm
    obtain ⟨f, l, x0, x1, x2, x3, x4, x5, ho, rfl⟩ := hm
    exact ⟨f, l, x0, x1, x2, x3, x4, x5, ho, by rw [asF_err hp]⟩
theorem chb_cases (c : Int) (_h0 : 0 ≤ c) : c < 32 ∨ (32 ≤ c ∧ c < 34) ∨ c = 34 ∨ (34 < c ∧ c ≤ 126) ∨ 126 < c := by omega
theorem asF_nil : Ar.asF ⟨#[]⟩ = 0 := by kernel_rfl
set_option maxHeartbeats 4000000 in
set_option maxRecDepth 100000 in
theorem rpath_is (s : ByteArray) (hs : s.size ≤ 1000) (w : World) : Calls Tryz.prog 63 #[.string s] w fun e w' => e = .returned (.bool (pathOkB s)) ∧ Below w.heap.size w w' := by
  by_cases h0 : s.size = 0
  · obtain rfl : s = ⟨#[]⟩ := ByteArray.ext (Array.eq_empty_of_size_eq_zero h0)
    have HR : Hid (true = pathOkB ⟨#[]⟩) := by show _ = _; unfold pathOkB; rw [asF_nil]; rfl
    generalize pathOkB ⟨#[]⟩ = R at *
    go_enter Tryz.func63, Tryz.ntmps63
    go_wp2_with fail
    go_ret
    exact ⟨ret_bool HR.out, brefl w⟩
  · have he : s.toList.isEmpty = false := by rw [Kn.emptyS_iff]; exact decide_eq_false h0
    have hd : (s.toList == []) = false := by
      cases hl : s.toList with
      | nil => rw [hl] at he; cases he
      | cons a r => rfl
    have CP := hide (rparse_is s w)
    have HB1 := hide (fun i (h : i < s.size) hb => path_bad (s := s) (i := i) h hb)
    have HE : Hid (pathOkB s = decide (Ar.asF s = 0)) := rfl
    generalize pathOkB s = R at *
    generalize Ar.asF s = n at *
    clear h0
    go_enter Tryz.func63, Tryz.ntmps63
    go_wp2_with fail
    go_loopw [3] (fun v wr => ∃ k : Nat, v = .int .i64 k ∧ k ≤ s.size ∧ w = wr) (fun v _ => s.size - (intOf v).toNat)
    case atStart => exact ⟨0, rfl, Nat.zero_le _, rfl⟩
    case round =>
      obtain ⟨k, rfl, hk, rfl⟩ := hrel
      by_cases hkl : k < s.size
      · have hkl' : (k : Int) < (s.size : Int) := by omega
        have HB := hide (HB1.out k hkl)
        have HV : Hid (Chb s[k] = (decide (32 ≤ (s[k].toNat : Int)) && decide ((s[k].toNat : Int) ≤ 126) && decide ((s[k].toNat : Int) ≠ 34))) := rfl
        go_upto_region 6 with fail
        obtain ⟨c, hc⟩ : ∃ c : Int, ((s[k].toNat : Nat) : Int) = c := ⟨_, rfl⟩
        have hc0 : 0 ≤ c := by omega
        try rw [hc]
        rw [hc] at HV
        have hc' : ((s.data[k].toNat : Nat) : Int) = c := hc
        rcases chb_cases c hc0 with h | h | h | h | h
        · have HR : Hid (R = false) := HB.out (by rw [HV.out]; simp; omega)
          have g1 : c < 32 := by omega
          clear HB HV h hc0 CP HE HB1
          go_wp2_with fail
          all_goals (go_ret; exact ⟨ret_bool HR.out.symm, brefl w⟩)
        · have g1 : ¬ c < 32 := by omega
          have g2 : ¬ 126 < c := by omega
          have g3 : (c == 34) = false := beq_eq_false_iff_ne.2 (by omega)
          clear HB HV h hc0
          go_wp2_with fail
          all_goals exact ⟨⟨k + 1, by go_num, by omega, trivial⟩, by simp [intOf] <;> omega⟩
        · have HR : Hid (R = false) := HB.out (by rw [HV.out]; simp; omega)
          have g1 : ¬ c < 32 := by omega
          have g2 : ¬ 126 < c := by omega
          have g3 : (c == 34) = true := beq_iff_eq.2 h
          clear HB HV h hc0 CP HE HB1
          go_wp2_with fail
          all_goals (go_ret; exact ⟨ret_bool HR.out.symm, brefl w⟩)
        · have g1 : ¬ c < 32 := by omega
          have g2 : ¬ 126 < c := by omega
          have g3 : (c == 34) = false := beq_eq_false_iff_ne.2 (by omega)
          clear HB HV h hc0
          go_wp2_with fail
          all_goals exact ⟨⟨k + 1, by go_num, by omega, trivial⟩, by simp [intOf] <;> omega⟩
        · have HR : Hid (R = false) := HB.out (by rw [HV.out]; simp; omega)
          have g1 : ¬ c < 32 := by omega
          have g2 : 126 < c := by omega
          clear HB HV h hc0 CP HE HB1
          go_wp2_with fail
          all_goals (go_ret; exact ⟨ret_bool HR.out.symm, brefl w⟩)
      · have hkl' : ¬ (k : Int) < (s.size : Int) := by omega
        clear HB1
        go_upto_region 8 with fail
        go_wp2_with fail
        refine CP.out.mono ?_
        rintro e w2 ⟨⟨f, l, x0, x1, x2, x3, x4, x5, ⟨o0, o1, o2, o3, o4, o5⟩, rfl⟩, hb⟩
        have HB := hide hb
        clear hb CP
        have s0 := fun w a m => run_store Tryz.prog w a x0 m o0
        have s1 := fun w a m => run_store Tryz.prog w a x1 m o1
        have s2 := fun w a m => run_store Tryz.prog w a x2 m o2
        have s3 := fun w a m => run_store Tryz.prog w a x3 m o3
        have s4 := fun w a m => run_store Tryz.prog w a x4 m o4
        have s5 := fun w a m => run_store Tryz.prog w a x5 m o5
        have hle : w.heap.size ≤ w2.heap.size := HB.out.size
        have HR : Hid (R = (n == 0)) := by show _ = _; rw [HE.out]; simp [Bool.beq_eq_decide_eq]
        clear HE
        go_wp2_with fail
        go_ret
        refine ⟨ret_bool HR.out.symm, ?_⟩
        repeat (first | exact balloc HB.out _ | refine bset ?_ hle _)
def commsOkB (l : List (Int × Int)) : Bool := decide (l.length ≤ 8) && l.all fun c => Cm.Co.may c
theorem comms_bad {l : List (Int × Int)} {i : Nat} (h : i < l.length) (hb : Cm.Co.may l[i] = false) : commsOkB l = false := by
  unfold commsOkB
  rw [List.all_eq_false.2 ⟨l[i], List.getElem_mem h, by rw [hb]; decide⟩, Bool.and_false]
theorem comms_long {l : List (Int × Int)} (h : 8 < l.length) : commsOkB l = false := by
  unfold commsOkB
  rw [decide_eq_false (by omega), Bool.false_and]
theorem comms_good {l : List (Int × Int)} (h : l.length ≤ 8) (hb : ∀ i (hi : i < l.length), Cm.Co.may l[i] = true) : commsOkB l = true := by
  unfold commsOkB
  rw [decide_eq_true h, List.all_eq_true.2 (fun x hx => by
    obtain ⟨i, hi, rfl⟩ := List.getElem_of_mem hx
    exact hb i hi)]
  rfl
set_option maxHeartbeats 4000000 in
set_option maxRecDepth 100000 in
theorem rcomms_is (v : Value) (l : List (Int × Int)) (w : World) (h : Rd w 2 PrR v l) (hz : l.length ≤ 900) : Calls Tryz.prog 65 #[v] w fun e w' => e = .returned (.bool (commsOkB l)) ∧ Below w.heap.size w w' := by
  obtain ⟨ao, ca, rfl⟩ := h.slice
  have RD := hide h
  have HBD := hide (fun i (hi : i < l.length) hb => comms_bad (i := i) hi hb)
  have HLG := hide (comms_long (l := l))
  have HGD := hide (comms_good (l := l))
  obtain ⟨N, hN⟩ : ∃ N, l.length = N := ⟨_, rfl⟩
  have HN := hide hN
  generalize commsOkB l = R at *
  rw [hN] at hz ⊢
  clear h hN
  go_enter Tryz.func65, Tryz.ntmps65
  go_wp2_with fail
  go_loopw [3] (fun v wr => ∃ k : Nat, v = .int .i64 k ∧ k ≤ N ∧ k ≤ 8 ∧ Hid (∀ i (hi : i < l.length), i < k → Cm.Co.may l[i] = true) ∧ Hid (Below w.heap.size w wr)) (fun v _ => N - (intOf v).toNat)
  case atStart => exact ⟨0, rfl, Nat.zero_le _, Nat.zero_le _, fun i _ h => absurd h (Nat.not_lt_zero _), brefl w⟩
  case round =>
    obtain ⟨k, rfl, hk, hk8, HALL, HBR⟩ := hrel
    by_cases hkl : k < N
    · have hkl' : (k : Int) < (N : Int) := by omega
      have hil : k < l.length := by rw [HN.out]; exact hkl
      by_cases h8 : k = 8
      · have h8' : (8 : Int) ≤ (k : Int) := by omega
        have HR : Hid (R = false) := HLG.out (by rw [HN.out]; omega)
        clear HBD HLG HGD HALL h8
        go_wp2_with fail
        go_ret
        exact ⟨ret_bool HR.out.symm, HBR.out⟩
      have h8' : ¬ (8 : Int) ≤ (k : Int) := by omega
      obtain ⟨b, off, xs, rfl, hb, hx, ha⟩ := RD.out.later HBR.out hil
      have HB := hide (HBD.out k hil)
      have HNX : Hid (Cm.Co.may l[k] = true → ∀ i (hi : i < l.length), i < k + 1 → Cm.Co.may l[i] = true) := by
        intro h i hi hik
        rcases Nat.lt_or_ge i k with h1 | h1
        · exact HALL.out i hi h1
        · obtain rfl : i = k := by omega
          exact h
      generalize l[k] = q at *
      obtain rfl : xs = [.int .i64 q.1, .int .i64 q.2] := hx
      have a0 := ha 0 _ rfl
      have a1 := ha 1 _ rfl
      simp only [Nat.add_zero] at a0
      clear ha
      have CM := hide (fun r h => Cm.refMay_is q.1 q.2 r h wr)
      cases hm : Cm.Co.may q with
      | false =>
        have C := hide (CM.out false hm)
        have HR : Hid (R = false) := HB.out hm
        clear HBD HLG HGD HALL HB HNX CM hm
        go_wp2_with fail
        refine C.out.mono ?_
        rintro e w2 ⟨rfl, hb2⟩
        have HB2 := hide (bthen HBR.out hb2)
        clear hb2 C
        go_wp2_with fail
        go_ret
        exact ⟨ret_bool HR.out.symm, HB2.out⟩
      | true =>
        have C := hide (CM.out true hm)
        have HNY := hide (HNX.out hm)
        clear HB HNX CM hm
        go_wp2_with fail
        refine C.out.mono ?_
        rintro e w2 ⟨rfl, hb2⟩
        have HB2 := hide (bthen HBR.out hb2)
        clear hb2 C
        go_wp2_with fail
        exact ⟨⟨k + 1, by go_num, by omega, by omega, HNY, HB2⟩, by simp [intOf] <;> omega⟩
    · have hkl' : ¬ (k : Int) < (N : Int) := by omega
      have HR : Hid (R = true) := HGD.out (by rw [HN.out]; omega) (fun i hi => HALL.out i hi (by rw [HN.out] at hi; omega))
      clear HBD HLG HGD HALL
      go_wp2_with fail
      go_ret
      exact ⟨ret_bool HR.out.symm, HBR.out⟩
end Go.Proofs.YtpmmhmgojjlniaaGreatDoor
namespace Go.Proofs.YtpmmhmgojjlniaaGreatDoor.Ar
open Go.RowKit Go.Sort
theorem refText_bad (ao : Option Addr) (ca : Nat) (l : List Int) (w : World) (hA : Is.slot w ao l) (hs : Is.may l = false) (h300 : l.length ≤ 300) :
    Calls Tryz.prog 97 #[.slice ao l.length ca] w fun e w' => e = .returned (.string ⟨#[]⟩) ∧ Below w.heap.size w w' := by
  have CM := hide (refMay_is ao ca l false hs w hA h300)
  clear hA hs
  go_enter Tryz.func97, Tryz.ntmps97
  go_wp2_with fail
  refine CM.out.mono ?_
  rintro e w1 ⟨rfl, rfl⟩
  go_wp2_with fail
  go_ret
  exact ⟨rfl, brefl _⟩

set_option maxHeartbeats 4000000 in
set_option maxRecDepth 100000 in
theorem refText_good (ao : Option Addr) (ca : Nat) (l : List Int) (q : ByteArray) (hq : Hid (q = ⟨(Lib.join (l.map Lib.itoa) [32]).toArray⟩)) (w : World) (hA : Is.slot w ao l) (hs : Is.may l = true) :
    Calls Tryz.prog 97 #[.slice ao l.length ca] w fun e w' => e = .returned (.string q) ∧ Below w.heap.size w w' := by
  have hl16 : l.length ≤ 16 := ((Is.may_iff l).1 hs).1
  have HA := hide hA
  have HS := hide hs
  have CM := hide (refMay_is ao ca l true hs w hA (by omega))
  clear hA hs
  have HEND : Hid (Is.joinTo l l.length = Lib.join (l.map Lib.itoa) [32]) := by show _ = _; unfold Is.joinTo; rw [List.take_length]
  go_enter Tryz.func97, Tryz.ntmps97
  go_wp2_with fail
  refine CM.out.mono ?_
  rintro e w1 ⟨rfl, rfl⟩
  go_wp2_with fail
  go_loopw [3, 4] (fun v3 v4 wr => ∃ (k : Nat) (t : ByteArray), v4 = .int .i64 k ∧ v3 = .string t ∧ k ≤ l.length ∧ Hid (t = ⟨(Is.joinTo l k).toArray⟩) ∧ Below w1.heap.size w1 wr) (fun _ v4 _ => l.length - (intOf v4).toNat)
  case atStart => exact ⟨0, _, rfl, rfl, Nat.zero_le _, rfl, brefl _⟩
  case round =>
    obtain ⟨k, t, rfl, rfl, hk, ht, hbr⟩ := hrel
    have HBR := hide hbr
    clear hbr
    by_cases hkl : k < l.length
    · have hkl' : (k : Int) < (l.length : Int) := by omega
      obtain ⟨b, off, rfl, hrd⟩ := Is.slot_at HA.out hkl
      have e0 := Is.reads_below hrd HBR.out k hkl
      clear hrd
      have has := (Is.as_iff _).1 (((Is.may_iff l).1 HS.out).2 k hkl)
      rcases Nat.eq_zero_or_pos k with hk0 | hk0
      · subst hk0
        have HN : Hid (Is.joinTo l (0 + 1) = Lib.itoa l[0]) := Is.joinTo_one l hkl
        simp only [Nat.add_zero] at e0
        generalize l[0] = y at *
        obtain ⟨u, hu⟩ : ∃ u : ByteArray, u = ⟨(Lib.itoa y).toArray⟩ := ⟨_, rfl⟩
        have hz : t = ⟨#[]⟩ := ht.out
        subst hz
        have HA2 : Adds ⟨#[]⟩ u u := by
          rw [hu]
          exact adds_list [] _ (by decide) (Nat.le_trans (itoa_len y (by omega) (by omega)) (by decide))
        have CN := hide (fun W => refNumber_is y u (by omega) (by omega) hu W)
        have HU := hide hu
        clear hu ht has
        unfold Adds at HA2
        go_wp2_with fail
        refine (CN.out _).mono ?_
        rintro e w3 ⟨rfl, hb3⟩
        have B3 := hide (bthen HBR.out hb3)
        clear hb3 HBR
        go_wp2_with fail
        refine ⟨⟨1, u, by go_num, rfl, by omega, ?_, B3.out⟩, by simp [intOf] <;> omega⟩
        show _ = _
        rw [HU.out, HN.out]
      · obtain ⟨m, rfl⟩ : ∃ m, k = m + 1 := ⟨k - 1, by omega⟩
        have hpos : (0 : Int) < (m : Int) + 1 := by omega
        have hkl2 : (m : Int) + 1 < (l.length : Int) := by omega
        have HN : Hid (Is.joinTo l (m + 1 + 1) = Is.joinTo l (m + 1) ++ [32] ++ Lib.itoa l[m + 1]) := Is.joinTo_succ l m hkl
        have hjl := Is.joinTo_len l HS.out (m + 1) (by omega)
        generalize l[m + 1] = y at *
        have htl := itoa_len y (by omega) (by omega)
        obtain ⟨u, hu⟩ : ∃ u : ByteArray, u = ⟨(Lib.itoa y).toArray⟩ := ⟨_, rfl⟩
        obtain ⟨s, hs⟩ : ∃ s : ByteArray, s = ⟨(Is.joinTo l (m + 1) ++ [32]).toArray⟩ := ⟨_, rfl⟩
        obtain ⟨r, hr⟩ : ∃ r : ByteArray, r = ⟨(Is.joinTo l (m + 1) ++ [32] ++ Lib.itoa y).toArray⟩ := ⟨_, rfl⟩
        have K0 : Adds t ⟨#[32]⟩ s := by
          rw [ht.out, hs]
          exact adds_list _ [32] (by omega) (by decide)
        have K1 : Adds s u r := by
          rw [hs, hu, hr]
          exact adds_list _ _ (by simp; omega) (by omega)
        have CN := hide (fun W => refNumber_is y u (by omega) (by omega) hu W)
        have HR := hide hr
        clear hu hs hr ht hjl htl has
        unfold Adds at K0 K1
        go_wp2_with fail
        refine (CN.out _).mono ?_
        rintro e w3 ⟨rfl, hb3⟩
        have B3 := hide (bthen HBR.out hb3)
        clear hb3 HBR
        go_wp2_with fail
        refine ⟨⟨m + 1 + 1, r, by go_num, rfl, by omega, ?_, B3.out⟩, by simp [intOf] <;> omega⟩
        show _ = _
        rw [HR.out, HN.out]
    · have hkl' : ¬ (k : Int) < (l.length : Int) := by omega
      obtain rfl : k = l.length := by omega
      have HE : Hid (t = q) := by show _ = _; rw [hq.out, ← HEND.out]; exact ht.out
      clear ht
      go_wp2_with fail
      go_ret
      exact ⟨by rw [← HE.out]; rfl, HBR.out⟩

theorem refText_is (ao : Option Addr) (ca : Nat) (l : List Int) (t : ByteArray) (ht : t = ⟨(Is.text l).toArray⟩) (w : World) (hA : Is.slot w ao l) (h300 : l.length ≤ 300) :
    Calls Tryz.prog 97 #[.slice ao l.length ca] w fun e w' => e = .returned (.string t) ∧ Below w.heap.size w w' := by
  subst ht
  unfold Is.text
  cases hs : Is.may l
  · exact refText_bad ao ca l w hA hs h300
  · rw [if_pos rfl]
    exact refText_good ao ca l _ rfl w hA hs
end Go.Proofs.YtpmmhmgojjlniaaGreatDoor.Ar
