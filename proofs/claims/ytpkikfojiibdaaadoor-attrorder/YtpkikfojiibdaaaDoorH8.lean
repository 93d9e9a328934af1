/- The contracts of the document's Number and Text of a path. -/
import Derived.Test.YtpkikfojiibdaaaDoorH1
import Derived.Lib.ItoaLen
import Derived.Lib.AppendIntMem
import Derived.Laws.IdiomStrings
import Derived.Laws.Concat
import Derived.Lib.Join
namespace Go.Proofs.YtpkikfojiibdaaaDoor
open Go.RowKit Go.Sort

/-- Two texts joined make a third one. -/
def Adds (x y z : ByteArray) : Prop := ∀ W : World, (Op.stringOp .add x y).run Tryd.prog W = .ok (.string z) W
theorem adds_mk (x y z : ByteArray) (h : x.size + y.size ≤ maxLen) (hz : x ++ y = z) : Adds x y z := by
  intro W
  subst hz
  exact run_string_add_sum W x y h
theorem ba_app (a b : List UInt8) : (⟨a.toArray⟩ : ByteArray) ++ ⟨b.toArray⟩ = ⟨(a ++ b).toArray⟩ := by
  apply ByteArray.ext
  simp [ByteArray.data_append]
theorem adds_list (x y : List UInt8) (h1 : x.length ≤ 100000) (h2 : y.length ≤ 100000) : Adds ⟨x.toArray⟩ ⟨y.toArray⟩ ⟨(x ++ y).toArray⟩ :=
  adds_mk _ _ _ (by show x.toArray.size + y.toArray.size ≤ maxLen; simp; unfold maxLen; omega) (ba_app x y)

theorem one_byte (W : World) (d : Int) (h0 : 0 ≤ d) (h1 : d < 256) : (convert 58 9 (.slice (some ⟨W.heap.size, 0, none⟩) 1 1)).run Tryd.prog (W.alloc (.cells #[.int .u8 d] 5)) = .ok (.string ⟨[UInt8.ofNat d.toNat].toArray⟩) (W.alloc (.cells #[.int .u8 d] 5)) := by
  refine run_convert_bytes_back (W.alloc (.cells #[.int .u8 d] 5)) _ _ _ ⟨W.heap.size, 0, none⟩ 1 [UInt8.ofNat d.toNat] Tryd.underlying58 Tryd.underlying5 Tryd.underlying9 ?_
  intro j hj
  simp at hj
  subst hj
  have e : (((UInt8.ofNat d.toNat).toNat : Nat) : Int) = d := by
    rw [UInt8.toNat_ofNat']
    omega
  simp [Addr.add, go_sem]
  omega

theorem dec_step (u d : Nat) (hd : d < 10) (hu : 0 < u) : Lib.decDigits (10 * u + d) = Lib.decDigits u ++ [UInt8.ofNat (48 + d)] := by
  rw [Lib.decDigits, dif_neg (by omega)]
  have e1 : (10 * u + d) / 10 = u := by omega
  have e2 : (10 * u + d) % 10 = d := by omega
  rw [e1, e2]

set_option maxHeartbeats 1000000 in
set_option maxRecDepth 100000 in
theorem refNumber_any (n : Int) (h0 : 0 ≤ n) (h1 : n ≤ 4294967295) (w : World) :
    Calls Tryd.prog 33 #[.int .i64 n] w fun e w' => e = .returned (.string ⟨(Lib.itoa n).toArray⟩) ∧ Below w.heap.size w w' := by
  go_enter Tryd.func33, Tryd.ntmps33
  go_wp2_with fail
  go_loopw [0, 3] (fun i s wr => ∃ (m : Int) (ds : List UInt8), 0 ≤ m ∧ m ≤ 4294967295 ∧ i = .int .i64 m ∧ s = .string ⟨ds.toArray⟩ ∧ Hid (Lib.decDigits m.toNat ++ ds = Lib.itoa n) ∧ Below w.heap.size w wr) (fun i _ _ => (intOf i).toNat)
  case atStart =>
    refine ⟨n, [], h0, h1, rfl, rfl, ?_, brefl w⟩
    show _ = _
    rw [List.append_nil]
    unfold Lib.itoa
    rw [if_neg (by omega)]
  case round =>
    obtain ⟨m, ds, hm0, hm1, rfl, rfl, HD, hb⟩ := hrel
    have hl : ds.length ≤ 21 := by
      have h1 := Lib.itoa_length_le n (by omega) (by omega)
      have h2 := congrArg List.length HD.out
      rw [List.length_append] at h2
      omega
    have hl' : 1 + ds.length ≤ 9223372036854775807 := by omega
    by_cases hlt : m < 10
    · have hone := one_byte wr (48 + m) (by omega) (by omega)
      have HE : Hid ([UInt8.ofNat (48 + m).toNat] ++ ds = Lib.itoa n) := by
        show _ = _
        rw [← HD.out, Lib.decDigits_one (by omega)]
        have e : (48 + m).toNat = 48 + m.toNat := by omega
        rw [e]
      go_wp2_with fail
      refine bodyPost_ret (v := .string ⟨(Lib.itoa n).toArray⟩) ?_ rfl ⟨rfl, balloc hb _⟩
      rw [← HE.out, ← ba_app]
      simp [results, Tryd.results33, go_sem]
    · have hone := one_byte wr (48 + m % 10) (by omega) (by omega)
      have HE : Hid (Lib.decDigits (m / 10).toNat ++ ([UInt8.ofNat (48 + m % 10).toNat] ++ ds) = Lib.itoa n) := by
        show _ = _
        rw [← HD.out]
        have e : m.toNat = 10 * (m / 10).toNat + (m % 10).toNat := by omega
        have e2 : (48 + m % 10).toNat = 48 + (m % 10).toNat := by omega
        rw [e, e2, dec_step _ _ (by omega) (by omega), List.append_assoc]
      go_wp2_with fail
      refine ⟨⟨m / 10, [UInt8.ofNat (48 + m % 10).toNat] ++ ds, by omega, by omega, rfl, ?_, HE, balloc hb _⟩, by simp [intOf]; omega⟩
      rw [← ba_app]
theorem refNumber_is (n : Int) (t : ByteArray) (h0 : 0 ≤ n) (h1 : n ≤ 65535) (ht : t = ⟨(Lib.itoa n).toArray⟩) (w : World) :
    Calls Tryd.prog 33 #[.int .i64 n] w fun e w' => e = .returned (.string t) ∧ Below w.heap.size w w' := by
  subst ht
  exact refNumber_any n h0 (by omega) w

theorem itoa_len (n : Int) (h0 : 0 ≤ n) (h1 : n ≤ 65535) : (Lib.itoa n).length ≤ 21 := Lib.itoa_length_le n (by omega) (by omega)
def Is.text (l : List Int) : List UInt8 := if Is.may l = true then Lib.join (l.map Lib.itoa) [32] else []
/-- What stands behind the first k. -/
def Is.joinTo (l : List Int) (k : Nat) : List UInt8 := Lib.join ((l.take k).map Lib.itoa) [32]
theorem Is.joinTo_one (l : List Int) (h : 0 < l.length) : Is.joinTo l 1 = Lib.itoa l[0] := by
  cases l with
  | nil => simp at h
  | cons x r => simp [Is.joinTo, Lib.join_one]
theorem Is.joinTo_succ (l : List Int) (m : Nat) (h : m + 1 < l.length) : Is.joinTo l (m + 1 + 1) = Is.joinTo l (m + 1) ++ [32] ++ Lib.itoa l[m + 1] := by
  cases l with
  | nil => simp at h
  | cons x r =>
    have h' : m < r.length := by simpa using h
    unfold Is.joinTo
    rw [List.take_succ_cons, List.map_cons, Lib.join_cons, List.take_succ_cons, List.map_cons, Lib.join_cons, List.map_take, List.map_take, Lib.joinTail_take_succ [32] (r.map Lib.itoa) m (Lib.itoa r[m]) (by simp [h'])]
    simp [List.append_assoc]
theorem Is.joinTo_len (l : List Int) (hm : Is.may l = true) : ∀ k, k ≤ l.length → (Is.joinTo l k).length ≤ 22 * k
  | 0, _ => by simp [Is.joinTo, Lib.join]
  | 1, h => by
    rw [Is.joinTo_one l h]
    have := (Is.as_iff _).1 (((Is.may_iff l).1 hm).2 0 h)
    have := itoa_len l[0] (by omega) (by omega)
    omega
  | m + 2, h => by
    rw [Is.joinTo_succ l m h]
    have h1 := Is.joinTo_len l hm (m + 1) (by omega)
    have := (Is.as_iff _).1 (((Is.may_iff l).1 hm).2 (m + 1) h)
    have h2 := itoa_len l[m + 1] (by omega) (by omega)
    rw [List.length_append, List.length_append, List.length_singleton]
    omega

theorem refText_bad (ao : Option Addr) (ca : Nat) (l : List Int) (w : World) (hA : Is.slot w ao l) (hs : Is.may l = false) (h300 : l.length ≤ 300) :
    Calls Tryd.prog 34 #[.slice ao l.length ca] w fun e w' => e = .returned (.string ⟨#[]⟩) ∧ Below w.heap.size w w' := by
  have CM := hide (refMay_is ao ca l false hs w hA h300)
  clear hA hs
  go_enter Tryd.func34, Tryd.ntmps34
  go_wp2_with fail
  refine CM.out.mono ?_
  rintro e w1 ⟨rfl, rfl⟩
  go_wp2_with fail
  go_ret
  exact ⟨rfl, brefl _⟩

set_option maxHeartbeats 4000000 in
set_option maxRecDepth 100000 in
theorem refText_good (ao : Option Addr) (ca : Nat) (l : List Int) (q : ByteArray) (hq : Hid (q = ⟨(Lib.join (l.map Lib.itoa) [32]).toArray⟩)) (w : World) (hA : Is.slot w ao l) (hs : Is.may l = true) :
    Calls Tryd.prog 34 #[.slice ao l.length ca] w fun e w' => e = .returned (.string q) ∧ Below w.heap.size w w' := by
  have hl16 : l.length ≤ 16 := ((Is.may_iff l).1 hs).1
  have HA := hide hA
  have HS := hide hs
  have CM := hide (refMay_is ao ca l true hs w hA (by omega))
  clear hA hs
  have HEND : Hid (Is.joinTo l l.length = Lib.join (l.map Lib.itoa) [32]) := by show _ = _; unfold Is.joinTo; rw [List.take_length]
  go_enter Tryd.func34, Tryd.ntmps34
  go_wp2_with fail
  refine CM.out.mono ?_
  rintro e w1 ⟨rfl, rfl⟩
  go_wp2_with fail
  go_loopw [3, 4] (fun v3 v4 wr => ∃ (k : Nat) (t : ByteArray), v4 = .int .i64 k ∧ v3 = .string t ∧ k ≤ l.length ∧ Hid (t = ⟨(Is.joinTo l k).toArray⟩) ∧ Below w1.heap.size w1 wr) (fun _ v4 _ => l.length - (intOf v4).toNat)
  case atStart => exact ⟨0, _, rfl, rfl, Nat.zero_le _, rfl, brefl _⟩
  case round =>
    obtain ⟨k, t, rfl, rfl, hk, ht, hbr⟩ := hrel
    have HBR := hide hbr
    clear hbr
    by_cases hkl : k < l.length
    · have hkl' : (k : Int) < (l.length : Int) := by omega
      obtain ⟨b, off, rfl, hrd⟩ := Is.slot_at HA.out hkl
      have e0 := Is.reads_below hrd HBR.out k hkl
      clear hrd
      have has := (Is.as_iff _).1 (((Is.may_iff l).1 HS.out).2 k hkl)
      rcases Nat.eq_zero_or_pos k with hk0 | hk0
      · subst hk0
        have HN : Hid (Is.joinTo l (0 + 1) = Lib.itoa l[0]) := Is.joinTo_one l hkl
        simp only [Nat.add_zero] at e0
        generalize l[0] = y at *
        obtain ⟨u, hu⟩ : ∃ u : ByteArray, u = ⟨(Lib.itoa y).toArray⟩ := ⟨_, rfl⟩
        have hz : t = ⟨#[]⟩ := ht.out
        subst hz
        have HA2 : Adds ⟨#[]⟩ u u := by
          rw [hu]
          exact adds_list [] _ (by decide) (Nat.le_trans (itoa_len y (by omega) (by omega)) (by decide))
        have CN := hide (fun W => refNumber_is y u (by omega) (by omega) hu W)
        have HU := hide hu
        clear hu ht has
        unfold Adds at HA2
        go_wp2_with fail
        refine (CN.out _).mono ?_
        rintro e w3 ⟨rfl, hb3⟩
        have B3 := hide (bthen HBR.out hb3)
        clear hb3 HBR
        go_wp2_with fail
        refine ⟨⟨1, u, by go_num, rfl, by omega, ?_, B3.out⟩, by simp [intOf] <;> omega⟩
        show _ = _
        rw [HU.out, HN.out]
      · obtain ⟨m, rfl⟩ : ∃ m, k = m + 1 := ⟨k - 1, by omega⟩
        have hpos : (0 : Int) < (m : Int) + 1 := by omega
        have hkl2 : (m : Int) + 1 < (l.length : Int) := by omega
        have HN : Hid (Is.joinTo l (m + 1 + 1) = Is.joinTo l (m + 1) ++ [32] ++ Lib.itoa l[m + 1]) := Is.joinTo_succ l m hkl
        have hjl := Is.joinTo_len l HS.out (m + 1) (by omega)
        generalize l[m + 1] = y at *
        have htl := itoa_len y (by omega) (by omega)
        obtain ⟨u, hu⟩ : ∃ u : ByteArray, u = ⟨(Lib.itoa y).toArray⟩ := ⟨_, rfl⟩
        obtain ⟨s, hs⟩ : ∃ s : ByteArray, s = ⟨(Is.joinTo l (m + 1) ++ [32]).toArray⟩ := ⟨_, rfl⟩
        obtain ⟨r, hr⟩ : ∃ r : ByteArray, r = ⟨(Is.joinTo l (m + 1) ++ [32] ++ Lib.itoa y).toArray⟩ := ⟨_, rfl⟩
        have K0 : Adds t ⟨#[32]⟩ s := by
          rw [ht.out, hs]
          exact adds_list _ [32] (by omega) (by decide)
        have K1 : Adds s u r := by
          rw [hs, hu, hr]
          exact adds_list _ _ (by simp; omega) (by omega)
        have CN := hide (fun W => refNumber_is y u (by omega) (by omega) hu W)
        have HR := hide hr
        clear hu hs hr ht hjl htl has
        unfold Adds at K0 K1
        go_wp2_with fail
        refine (CN.out _).mono ?_
        rintro e w3 ⟨rfl, hb3⟩
        have B3 := hide (bthen HBR.out hb3)
        clear hb3 HBR
        go_wp2_with fail
        refine ⟨⟨m + 1 + 1, r, by go_num, rfl, by omega, ?_, B3.out⟩, by simp [intOf] <;> omega⟩
        show _ = _
        rw [HR.out, HN.out]
    · have hkl' : ¬ (k : Int) < (l.length : Int) := by omega
      obtain rfl : k = l.length := by omega
      have HE : Hid (t = q) := by show _ = _; rw [hq.out, ← HEND.out]; exact ht.out
      clear ht
      go_wp2_with fail
      go_ret
      exact ⟨by rw [← HE.out]; rfl, HBR.out⟩

theorem refText_is (ao : Option Addr) (ca : Nat) (l : List Int) (t : ByteArray) (ht : t = ⟨(Is.text l).toArray⟩) (w : World) (hA : Is.slot w ao l) (h300 : l.length ≤ 300) :
    Calls Tryd.prog 34 #[.slice ao l.length ca] w fun e w' => e = .returned (.string t) ∧ Below w.heap.size w w' := by
  subst ht
  unfold Is.text
  cases hs : Is.may l
  · exact refText_bad ao ca l w hA hs h300
  · rw [if_pos rfl]
    exact refText_good ao ca l _ rfl w hA hs
end Go.Proofs.YtpkikfojiibdaaaDoor
