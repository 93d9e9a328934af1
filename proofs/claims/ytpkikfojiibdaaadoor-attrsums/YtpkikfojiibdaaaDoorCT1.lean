/- Texts: Itoa, the document's Number, the well known communities, and the text of a community. -/
import Derived.Test.YtpkikfojiibdaaaDoorCA1
import Derived.Test.YtpkikfojiibdaaaDoorCS2
import Derived.Lib.AppendIntMem
import Derived.Lib.ItoaLen
import Derived.Laws.IdiomStrings
import Derived.Laws.Concat
namespace Go.Proofs.YtpkikfojiibdaaaDoor.Cm
open Go.RowKit Go.Sort

/-- The library's table of powers of ten reads as it was laid. -/
def Tab (w : World) : Prop := Lib.TabIs Tryd.prog w "internal/strconv.uint64pow10" .u64 Lib.pow10Tab
theorem Tab.on {w w' : World} (h : Tab w) (hb : Below w.heap.size w w') : Tab w' := Lib.tabBelow_of_tabIs h w' hb

theorem itoa_is (n : Int) (t : ByteArray) (h0 : 0 ≤ n) (h1 : n ≤ 65535) (ht : t = ⟨(Lib.itoa n).toArray⟩) (w : World) (h : Tab w) :
    Calls Tryd.prog 18 #[.int .i64 n] w fun e w' => e = .returned (.string t) ∧ Below w.heap.size w w' := by
  subst ht
  refine (Tryd.strconv_Itoa n (by omega) (by omega) w h).mono ?_
  rintro e w' ⟨rfl, k, os, rfl⟩
  exact ⟨rfl, Lib.below_grow _ w (Nat.le_refl _) k os⟩

/-- Two texts joined make a third one. -/
def Adds (x y z : ByteArray) : Prop := ∀ W : World, (Op.stringOp .add x y).run Tryd.prog W = .ok (.string z) W
theorem adds_mk (x y z : ByteArray) (h : x.size + y.size ≤ maxLen) (hz : x ++ y = z) : Adds x y z := by
  intro W
  subst hz
  exact run_string_add_sum W x y h
theorem ba_app (a b : List UInt8) : (⟨a.toArray⟩ : ByteArray) ++ ⟨b.toArray⟩ = ⟨(a ++ b).toArray⟩ := by
  apply ByteArray.ext
  simp [ByteArray.data_append]
theorem adds_list (x y : List UInt8) (h1 : x.length ≤ 100000) (h2 : y.length ≤ 100000) : Adds ⟨x.toArray⟩ ⟨y.toArray⟩ ⟨(x ++ y).toArray⟩ :=
  adds_mk _ _ _ (by show x.toArray.size + y.toArray.size ≤ maxLen; simp; unfold maxLen; omega) (ba_app x y)

theorem one_byte (W : World) (d : Int) (h0 : 0 ≤ d) (h1 : d < 256) : (convert 58 9 (.slice (some ⟨W.heap.size, 0, none⟩) 1 1)).run Tryd.prog (W.alloc (.cells #[.int .u8 d] 5)) = .ok (.string ⟨[UInt8.ofNat d.toNat].toArray⟩) (W.alloc (.cells #[.int .u8 d] 5)) := by
  refine run_convert_bytes_back (W.alloc (.cells #[.int .u8 d] 5)) _ _ _ ⟨W.heap.size, 0, none⟩ 1 [UInt8.ofNat d.toNat] Tryd.underlying58 Tryd.underlying5 Tryd.underlying9 ?_
  intro j hj
  simp at hj
  subst hj
  have e : (((UInt8.ofNat d.toNat).toNat : Nat) : Int) = d := by
    rw [UInt8.toNat_ofNat']
    omega
  simp [Addr.add, go_sem]
  omega

theorem dec_step (u d : Nat) (hd : d < 10) (hu : 0 < u) : Lib.decDigits (10 * u + d) = Lib.decDigits u ++ [UInt8.ofNat (48 + d)] := by
  rw [Lib.decDigits, dif_neg (by omega)]
  have e1 : (10 * u + d) / 10 = u := by omega
  have e2 : (10 * u + d) % 10 = d := by omega
  rw [e1, e2]

set_option maxHeartbeats 1000000 in
set_option maxRecDepth 100000 in
theorem refNumber_any (n : Int) (h0 : 0 ≤ n) (h1 : n ≤ 4294967295) (w : World) :
    Calls Tryd.prog 33 #[.int .i64 n] w fun e w' => e = .returned (.string ⟨(Lib.itoa n).toArray⟩) ∧ Below w.heap.size w w' := by
  go_enter Tryd.func33, Tryd.ntmps33
  go_wp2_with fail
  go_loopw [0, 3] (fun i s wr => ∃ (m : Int) (ds : List UInt8), 0 ≤ m ∧ m ≤ 4294967295 ∧ i = .int .i64 m ∧ s = .string ⟨ds.toArray⟩ ∧ Hid (Lib.decDigits m.toNat ++ ds = Lib.itoa n) ∧ Below w.heap.size w wr) (fun i _ _ => (intOf i).toNat)
  case atStart =>
    refine ⟨n, [], h0, h1, rfl, rfl, ?_, brefl w⟩
    show _ = _
    rw [List.append_nil]
    unfold Lib.itoa
    rw [if_neg (by omega)]
  case round =>
    obtain ⟨m, ds, hm0, hm1, rfl, rfl, HD, hb⟩ := hrel
    have hl : ds.length ≤ 21 := by
      have h1 := Lib.itoa_length_le n (by omega) (by omega)
      have h2 := congrArg List.length HD.out
      rw [List.length_append] at h2
      omega
    have hl' : 1 + ds.length ≤ 9223372036854775807 := by omega
    by_cases hlt : m < 10
    · have hone := one_byte wr (48 + m) (by omega) (by omega)
      have HE : Hid ([UInt8.ofNat (48 + m).toNat] ++ ds = Lib.itoa n) := by
        show _ = _
        rw [← HD.out, Lib.decDigits_one (by omega)]
        have e : (48 + m).toNat = 48 + m.toNat := by omega
        rw [e]
      go_wp2_with fail
      refine bodyPost_ret (v := .string ⟨(Lib.itoa n).toArray⟩) ?_ rfl ⟨rfl, balloc hb _⟩
      rw [← HE.out, ← ba_app]
      simp [results, Tryd.results33, go_sem]
    · have hone := one_byte wr (48 + m % 10) (by omega) (by omega)
      have HE : Hid (Lib.decDigits (m / 10).toNat ++ ([UInt8.ofNat (48 + m % 10).toNat] ++ ds) = Lib.itoa n) := by
        show _ = _
        rw [← HD.out]
        have e : m.toNat = 10 * (m / 10).toNat + (m % 10).toNat := by omega
        have e2 : (48 + m % 10).toNat = 48 + (m % 10).toNat := by omega
        rw [e, e2, dec_step _ _ (by omega) (by omega), List.append_assoc]
      go_wp2_with fail
      refine ⟨⟨m / 10, [UInt8.ofNat (48 + m % 10).toNat] ++ ds, by omega, by omega, rfl, ?_, HE, balloc hb _⟩, by simp [intOf]; omega⟩
      rw [← ba_app]
theorem refNumber_is (n : Int) (t : ByteArray) (h0 : 0 ≤ n) (h1 : n ≤ 65535) (ht : t = ⟨(Lib.itoa n).toArray⟩) (w : World) :
    Calls Tryd.prog 33 #[.int .i64 n] w fun e w' => e = .returned (.string t) ∧ Below w.heap.size w w' := by
  subst ht
  exact refNumber_any n h0 (by omega) w
end Go.Proofs.YtpkikfojiibdaaaDoor.Cm