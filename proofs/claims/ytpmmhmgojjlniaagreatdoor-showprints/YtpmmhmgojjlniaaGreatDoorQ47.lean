/- Texts. -/
import Derived.Test.YtpmmhmgojjlniaaGreatDoorQ38
import Derived.Test.YtpmmhmgojjlniaaGreatDoorQ43
import Derived.Test.YtpmmhmgojjlniaaGreatDoorQ44
import Derived.Laws.IdiomStrings
import Derived.Laws.Concat
namespace Go.Proofs.YtpmmhmgojjlniaaGreatDoor.Ax
open Go.RowKit
theorem one_byte (W : World) (d : Int) (h0 : 0 ≤ d) (h1 : d < 256) : (convert 72 9 (.slice (some ⟨W.heap.size, 0, none⟩) 1 1)).run Tryz.prog (W.alloc (.cells #[.int .u8 d] 5)) = .ok (.string ⟨[UInt8.ofNat d.toNat].toArray⟩) (W.alloc (.cells #[.int .u8 d] 5)) := by
  refine run_convert_bytes_back (W.alloc (.cells #[.int .u8 d] 5)) _ _ _ ⟨W.heap.size, 0, none⟩ 1 [UInt8.ofNat d.toNat] Tryz.underlying72 Tryz.underlying5 Tryz.underlying9 ?_
  intro j hj
  simp at hj
  subst hj
  have e : (((UInt8.ofNat d.toNat).toNat : Nat) : Int) = d := by
    rw [UInt8.toNat_ofNat']
    omega
  simp [Addr.add, go_sem]
  omega

set_option maxHeartbeats 1000000 in
set_option maxRecDepth 100000 in
theorem refNumber_any (n : Int) (h0 : 0 ≤ n) (h1 : n ≤ 4294967295) (w : World) :
    Calls Tryz.prog 95 #[.int .i64 n] w fun e w' => e = .returned (.string ⟨(Lib.itoa n).toArray⟩) ∧ Below w.heap.size w w' := by
  go_enter Tryz.func95, Tryz.ntmps95
  go_wp2_with fail
  go_loopw [0, 3] (fun i s wr => ∃ (m : Int) (ds : List UInt8), 0 ≤ m ∧ m ≤ 4294967295 ∧ i = .int .i64 m ∧ s = .string ⟨ds.toArray⟩ ∧ Hid (Lib.decDigits m.toNat ++ ds = Lib.itoa n) ∧ Below w.heap.size w wr) (fun i _ _ => (intOf i).toNat)
  case atStart =>
    refine ⟨n, [], h0, h1, rfl, rfl, ?_, brefl w⟩
    show _ = _
    rw [List.append_nil]
    unfold Lib.itoa
    rw [if_neg (by omega)]
  case round =>
    obtain ⟨m, ds, hm0, hm1, rfl, rfl, HD, hb⟩ := hrel
    have hl : ds.length ≤ 21 := by
      have h1 := Lib.itoa_length_le n (by omega) (by omega)
      have h2 := congrArg List.length HD.out
      rw [List.length_append] at h2
      omega
    have hl' : 1 + ds.length ≤ 9223372036854775807 := by omega
    by_cases hlt : m < 10
    · have hone := one_byte wr (48 + m) (by omega) (by omega)
      have HE : Hid ([UInt8.ofNat (48 + m).toNat] ++ ds = Lib.itoa n) := by
        show _ = _
        rw [← HD.out, Lib.decDigits_one (by omega)]
        have e : (48 + m).toNat = 48 + m.toNat := by omega
        rw [e]
      go_wp2_with fail
      refine bodyPost_ret (v := .string ⟨(Lib.itoa n).toArray⟩) ?_ rfl ⟨rfl, balloc hb _⟩
      rw [← HE.out, ← Ad.ba_app]
      simp [results, Tryz.results95, go_sem]
    · have hone := one_byte wr (48 + m % 10) (by omega) (by omega)
      have HE : Hid (Lib.decDigits (m / 10).toNat ++ ([UInt8.ofNat (48 + m % 10).toNat] ++ ds) = Lib.itoa n) := by
        show _ = _
        rw [← HD.out]
        have e : m.toNat = 10 * (m / 10).toNat + (m % 10).toNat := by omega
        have e2 : (48 + m % 10).toNat = 48 + (m % 10).toNat := by omega
        rw [e, e2, Ad.dec_step _ _ (by omega) (by omega), List.append_assoc]
      go_wp2_with fail
      refine ⟨⟨m / 10, [UInt8.ofNat (48 + m % 10).toNat] ++ ds, by omega, by omega, rfl, ?_, HE, balloc hb _⟩, by simp [intOf]; omega⟩
      rw [← Ad.ba_app]
end Go.Proofs.YtpmmhmgojjlniaaGreatDoor.Ax
namespace Go.Proofs.YtpmmhmgojjlniaaGreatDoor.Ax
open Go.RowKit
/-- A box's two cells, in every world of the class. -/
theorem two_regrown {W : World} {n : Nat} {a b : Int} (h : Two W n a b) : (∀ d os, (Sort.grow (redrawn W d) os).cell? ⟨n, 0, none⟩ = some (.int .u32 a)) ∧ (∀ d os, (Sort.grow (redrawn W d) os).cell? ⟨n, 1, none⟩ = some (.int .i64 b)) :=
  ⟨fun d os => cell_regrown h.1 d os, fun d os => cell_regrown h.2.1 d os⟩

end Go.Proofs.YtpmmhmgojjlniaaGreatDoor.Ax
namespace Go.Proofs.YtpmmhmgojjlniaaGreatDoor.Ax
open Go.RowKit
theorem refNumber_is (n : Int) (t : ByteArray) (h0 : 0 ≤ n) (h1 : n ≤ 4294967295) (ht : t = ⟨(Lib.itoa n).toArray⟩) (w : World) :
    Calls Tryz.prog 95 #[.int .i64 n] w fun e w' => e = .returned (.string t) ∧ Below w.heap.size w w' := by
  rw [ht]
  exact refNumber_any n h0 h1 w

theorem refText_not (a b : Int) (w : World) (ha : 0 ≤ a) (ha2 : a ≤ 4294967295) (hm : Ad.may a b = false) :
    Calls Tryz.prog 94 #[.agg #[.int .u32 a, .int .i64 b]] w fun e w' => e = .returned (.string ⟨#[]⟩) ∧ Below w.heap.size w w' := by
  go_enter Tryz.func94, Tryz.ntmps94
  go_wp2_with fail
  refine (refMay_is _ _ _ hm _ ha ha2).mono ?_
  rintro e w1 ⟨rfl, hb1⟩
  go_wp2_with fail
  go_ret
  exact ⟨rfl, bthen (balloc (brefl w) _) hb1⟩

set_option maxHeartbeats 4000000 in
set_option maxRecDepth 100000 in
theorem refText_yes (a b : Int) (t0 t1 t2 t3 t4 u0 u1 u2 u3 u4 u5 u6 u7 : ByteArray) (w : World) (ha : 0 ≤ a) (ha2 : a ≤ 4294967295) (hb0 : 0 ≤ b) (hb1 : b ≤ 32) (M : Hid (Ad.may a b = true))
    (K0 : Adds t0 ⟨#[46]⟩ u0) (K1 : Adds u0 t1 u1) (K2 : Adds u1 ⟨#[46]⟩ u2) (K3 : Adds u2 t2 u3) (K4 : Adds u3 ⟨#[46]⟩ u4) (K5 : Adds u4 t3 u5) (K6 : Adds u5 ⟨#[47]⟩ u6) (K7 : Adds u6 t4 u7)
    (N0 : Hid (t0 = ⟨(Lib.itoa (a / 16777216)).toArray⟩)) (N1 : Hid (t1 = ⟨(Lib.itoa (a / 65536 % 256)).toArray⟩)) (N2 : Hid (t2 = ⟨(Lib.itoa (a / 256 % 256)).toArray⟩)) (N3 : Hid (t3 = ⟨(Lib.itoa (a % 256)).toArray⟩)) (N4 : Hid (t4 = ⟨(Lib.itoa b).toArray⟩)) :
    Calls Tryz.prog 94 #[.agg #[.int .u32 a, .int .i64 b]] w fun e w' => e = .returned (.string u7) ∧ Below w.heap.size w w' := by
  unfold Adds at *
  go_enter Tryz.func94, Tryz.ntmps94
  go_wp2_with fail
  refine (refMay_is _ _ _ M.out _ ha ha2).mono ?_
  rintro e w1 ⟨rfl, hb1'⟩
  have T1 := two_below hb1' (n := w.heap.size) (a := a) (b := b) (by simp [go_sem]) (by simp [go_sem])
  obtain ⟨p0, p1, p2, p3⟩ := T1
  have B1 := hide (bthen (balloc (brefl w) _) hb1')
  clear hb1'
  go_wp2_with fail
  have T1 := two_of p0 p1
  obtain ⟨c0, c1⟩ := two_regrown T1
  clear p0 p1 p2 p3
  refine wp_region_quiet_below (by kernel_rfl) (by kernel_rfl) ?_
  iterate 3 (go_big_quiet_step ((go_at_call 95; exact Calls.regrown_of (refNumber_is _ t0 (by omega) (by omega) N0.out _))))
  iterate 5 (go_big_quiet_step ((go_at_call 95; exact Calls.regrown_of (refNumber_is _ t1 (by omega) (by omega) N1.out _))))
  iterate 6 (go_big_quiet_step ((go_at_call 95; exact Calls.regrown_of (refNumber_is _ t2 (by omega) (by omega) N2.out _))))
  iterate 5 (go_big_quiet_step ((go_at_call 95; exact Calls.regrown_of (refNumber_is _ t3 (by omega) (by omega) N3.out _))))
  iterate 5 (go_big_quiet_step ((go_at_call 95; exact Calls.regrown_of (refNumber_is _ t4 (by omega) (by omega) N4.out _))))
  iterate 2 (go_big_quiet_step (fail))
  refine wpQuiet_nil ?_
  rintro w8 ⟨⟨dd, os⟩, hw8⟩
  have hb8 : Below w1.heap.size w1 w8 := by rw [hw8]; exact below_regrown _ dd os
  have B8 := hide (bthen B1.out hb8)
  clear hb8 hw8 B1 c0 c1 T1
  go_wp2_with fail
  go_ret
  exact ⟨rfl, B8.out⟩

theorem refText_any (a b : Int) (w : World) (ha : 0 ≤ a) (ha2 : a ≤ 4294967295) :
    Calls Tryz.prog 94 #[.agg #[.int .u32 a, .int .i64 b]] w fun e w' => e = .returned (.string ⟨(Ad.textA a b).toArray⟩) ∧ Below w.heap.size w w' := by
  unfold Ad.textA
  cases hm : Ad.may a b
  · exact refText_not a b w ha ha2 hm
  · have hb := of_decide_eq_true hm
    have o0 : Ad.oct a 0 = a / 16777216 := by
      have e : Ad.oct a 0 = a / 16777216 % 256 := rfl
      omega
    have o1 : Ad.oct a 1 = a / 65536 % 256 := rfl
    have o2 : Ad.oct a 2 = a / 256 % 256 := rfl
    have o3 : Ad.oct a 3 = a % 256 := by
      have e : Ad.oct a 3 = a / 1 % 256 := rfl
      omega
    have l0 := Ad.itoa_len3 (a / 16777216) (by omega) (by omega)
    have l1 := Ad.itoa_len3 (a / 65536 % 256) (by omega) (by omega)
    have l2 := Ad.itoa_len3 (a / 256 % 256) (by omega) (by omega)
    have l3 := Ad.itoa_len3 (a % 256) (by omega) (by omega)
    have l4 := Ad.itoa_len3 b hb.1 (by omega)
    have sz : ∀ x : List UInt8, (⟨x.toArray⟩ : ByteArray).size = x.length := fun x => by simp [ByteArray.size]
    have K : ∀ x y : List UInt8, x.length ≤ 1000 → y.length ≤ 1000 → Adds ⟨x.toArray⟩ ⟨y.toArray⟩ ⟨(x ++ y).toArray⟩ := fun x y h1 h2 =>
      adds_mk _ _ _ (by rw [sz, sz]; unfold maxLen; omega) (Ad.ba_app x y)
    rw [if_pos rfl, Ad.textI_eq, o0, o1, o2, o3]
    have key := refText_yes a b _ _ _ _ _ _ _ _ _ _ _ _ _ w ha ha2 hb.1 hb.2.1 hm (K _ [46] (by omega) (by simp)) (K _ _ (by simp; omega) (by omega)) (K _ [46] (by simp; omega) (by simp)) (K _ _ (by simp; omega) (by omega)) (K _ [46] (by simp; omega) (by simp)) (K _ _ (by simp; omega) (by omega)) (K _ [47] (by simp; omega) (by simp)) (K _ _ (by simp; omega) (by omega)) rfl rfl rfl rfl rfl
    simpa using key
end Go.Proofs.YtpmmhmgojjlniaaGreatDoor.Ax
