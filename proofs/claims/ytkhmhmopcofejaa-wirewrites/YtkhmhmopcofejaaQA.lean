import Derived.Test.YtkhmhmopcofejaaKS
/- The contracts of wire's number and head. -/
namespace Go.Proofs.Ytkhmhmopcofejaa
open Go.RowKit Go.Sort

theorem slice_mid (t : TypeId) (ht : Try.prog.underlying t = some (.slice 5)) (b off n c lo hi : Nat) (h1 : lo ≤ hi) (h2 : hi ≤ c) : ∃ o', (lo < c → o' = off + lo) ∧ ∀ W, (Instr.slice t (.slice (some ⟨b, off, none⟩) n c) (some (.int .i64 lo)) (some (.int .i64 hi)) none).run Try.prog W = .ok (.slice (some ⟨b, o', none⟩) (hi - lo) (c - lo)) W := by
  have e1 : (lo : Int) ≤ (hi : Int) := by omega
  have e2 : (hi : Int) ≤ (c : Int) := by omega
  by_cases hc : lo = c
  · refine ⟨off, fun h => by omega, fun W => ?_⟩
    obtain rfl : hi = c := by omega
    subst hc
    simp [go_sem, Instr.slice, run_underlying ht]
  · refine ⟨off + lo, fun _ => rfl, fun W => ?_⟩
    simp [go_sem, Instr.slice, run_underlying ht, e2]
    rw [if_pos h1, if_neg (fun e => hc e.symm)]
theorem or_step (a b : Nat) (ha : a < 16777216) (hb : b < 256) : bits .or .i64 ((a * 256 : Nat) : Int) (b : Int) = ((a * 256 + b : Nat) : Int) := by
  have hx : a * 256 ||| b = a * 256 + b := by
    have := Nat.shiftLeft_add_eq_or_of_lt (i := 8) (b := b) (by omega) a
    rw [Nat.shiftLeft_eq] at this
    exact this.symm
  have h1 : (BitVec.ofInt 64 ((a * 256 : Nat) : Int)).toNat = a * 256 := by
    rw [BitVec.ofInt_natCast, BitVec.toNat_ofNat]; exact Nat.mod_eq_of_lt (by omega)
  have h2 : (BitVec.ofInt 64 (b : Int)).toNat = b := by
    rw [BitVec.ofInt_natCast, BitVec.toNat_ofNat]; exact Nat.mod_eq_of_lt (by omega)
  show IntKind.i64.wrap ((BitVec.ofInt 64 ((a * 256 : Nat) : Int) ||| BitVec.ofInt 64 (b : Int)).toNat : Int) = _
  rw [BitVec.toNat_or, h1, h2, hx, IntKind.wrap_i64]
  omega
theorem val_take {l : List UInt8} {j : Nat} (h : j < l.length) : val (l.take (j + 1)) = val (l.take j) * 256 + l[j].toNat := by
  rw [List.take_succ_eq_append_getElem h, val_snoc]
theorem val_small (l : List UInt8) (j : Nat) (hj : j < 4) : val (l.take j) < 16777216 := by
  have h := val_lt (l.take j)
  have h2 : (l.take j).length ≤ 3 := by rw [List.length_take]; omega
  have h3 : 256 ^ (l.take j).length ≤ 256 ^ 3 := Nat.pow_le_pow_right (by decide) h2
  omega
set_option maxHeartbeats 1000000 in
set_option maxRecDepth 100000 in
theorem number_is (b off c : Nat) (l : List UInt8) (k m : Nat) (hm : m ≤ 4) (hk : k + m ≤ l.length) (hl : l.length ≤ 100000) (hc : l.length ≤ c) (w : World) (hR : Bs.reads w b off l) :
    Calls Try.prog 65 #[.slice (some ⟨b, off, none⟩) l.length c, .int .i64 k, .int .i64 m] w fun e w' => e = .returned (.int .i64 (val ((l.drop k).take m) : Nat)) ∧ w = w' := by
  obtain ⟨o', ho', hsl⟩ := slice_mid 63 Try.underlying63 b off l.length c k (k + m) (by omega) (by omega)
  rw [show ((k + m : Nat) : Int) = (k : Int) + (m : Int) by push_cast; rfl, show k + m - k = m by omega] at hsl
  have HR := hide hR
  have HO := hide ho'
  clear hR ho'
  go_enter Try.func65, Try.ntmps65
  go_wp2_with fail
  go_loopw [7, 17] (fun v7 v17 wr => ∃ j : Nat, j ≤ m ∧ v17 = .int .i64 j ∧ v7 = .int .i64 (val (((l.drop k).take m).take j) : Nat) ∧ w = wr) (fun _ v17 _ => m - (intOf v17).toNat)
  case atStart => exact ⟨0, Nat.zero_le _, rfl, by simp [val, valFrom], rfl⟩
  case round =>
    obtain ⟨j, hj, rfl, rfl, rfl⟩ := hrel
    by_cases hjm : j < m
    · have hjm' : (j : Int) < (m : Int) := by omega
      have hj2 : j < ((l.drop k).take m).length := by rw [List.length_take, List.length_drop]; omega
      have hcell := HR.out (k + j) (by omega)
      have ho := HO.out (by omega)
      subst ho
      rw [← Nat.add_assoc] at hcell
      have hget : ((l.drop k).take m)[j] = l[k + j]'(by omega) := by rw [List.getElem_take, List.getElem_drop]
      have hv := val_take hj2
      rw [hget] at hv
      have hs := val_small ((l.drop k).take m) j (by omega)
      have hb : (l[k + j]'(by omega)).toNat < 256 := (l[k + j]'(by omega)).toNat_lt
      generalize (l[k + j]'(by omega)).toNat = x at *
      generalize val (((l.drop k).take m).take j) = y at *
      have hor := or_step y x hs hb
      have HV := hide hv
      have hmul : ((y * 256 : Nat) : Int) = (y : Int) * 256 := by push_cast; rfl
      rw [hmul] at hor
      clear hv hget hj2 hmul hsl
      go_wp2_with fail
      exact ⟨⟨j + 1, hjm, by go_num, by rw [HV.out]; push_cast; rfl, trivial⟩, by simp [intOf]; omega⟩
    · obtain rfl : j = m := by omega
      go_wp2_with fail
      go_ret
      refine ⟨?_, rfl⟩
      rw [show ((l.drop k).take j).take j = (l.drop k).take j by rw [List.take_take]; simp]
      rfl
def kd (l : List UInt8) : Nat := ((l.drop 18).headD 0).toNat
theorem kd_val {l : List UInt8} (h : 19 ≤ l.length) : val ((l.drop 18).take 1) = kd l := by
  unfold kd
  rw [List.drop_eq_getElem_cons (by omega : 18 < l.length), List.take_succ_cons, List.take_zero]
  simp [val, valFrom, List.getElem?_eq_getElem (by omega : 18 < l.length)]
theorem take_ff {l : List UInt8} {k : Nat} (hk : k < l.length) (h : l.take k = List.replicate k 255) (hx : l[k] = 255) : l.take (k + 1) = List.replicate (k + 1) 255 := by
  rw [List.take_succ_eq_append_getElem hk, h, hx, ← List.replicate_succ']
theorem not_ff {l : List UInt8} {k : Nat} (hk : k < l.length) (h16 : k < 16) (hx : l[k] ≠ 255) : ¬ hdOk l := by
  intro h
  have h1 : (l.take 16)[k]'(by rw [List.length_take]; omega) = 255 := by
    have e := h.1
    have : (l.take 16)[k]? = (List.replicate 16 (255 : UInt8))[k]? := by rw [e]
    rw [List.getElem?_eq_getElem (by rw [List.length_take]; omega), List.getElem?_replicate_of_lt h16] at this
    exact Option.some.inj this
  rw [List.getElem_take] at h1
  exact hx h1
theorem byte_eq {x : UInt8} : ((x.toNat : Int) != 255) = false ↔ x = 255 := by
  constructor
  · intro h
    have h1 : (x.toNat : Int) = 255 := by simpa using h
    have : x.toNat = 255 := by omega
    exact UInt8.toNat_inj.1 this
  · rintro rfl
    rfl
def hdV (l : List UInt8) : Value := if hdOk l then .tuple #[.int .i64 (hdN l : Nat), .int .i64 (kd l : Nat), .bool true] else .tuple #[.int .i64 0, .int .i64 0, .bool false]
set_option maxHeartbeats 2000000 in
set_option maxRecDepth 100000 in
theorem head_is (b off c : Nat) (l : List UInt8) (h19 : 19 ≤ l.length) (hl : l.length ≤ 100000) (hc : l.length ≤ c) (w : World) (hR : Bs.reads w b off l) :
    Calls Try.prog 40 #[.slice (some ⟨b, off, none⟩) l.length c] w fun e w' => e = .returned (hdV l) ∧ w = w' := by
  have CN := hide (number_is b off c l 16 2 (by decide) (by omega) hl hc w hR)
  have CK := hide (number_is b off c l 18 1 (by decide) (by omega) hl hc w hR)
  have HKD := hide (kd_val h19)
  have HR := hide hR
  have h16 : (16 : Int) ≤ (c : Int) := by omega
  have hc0 : ¬ c = 0 := by omega
  have HH := hide (And.intro h19 hl)
  clear hR hl
  go_enter Try.func40, Try.ntmps40
  go_wp2_with fail
  go_loopw [12] (fun v12 wr => ∃ j : Nat, j ≤ 16 ∧ v12 = .int .i64 j ∧ Hid (l.take j = List.replicate j 255) ∧ w = wr) (fun v12 _ => 16 - (intOf v12).toNat)
  case atStart => exact ⟨0, Nat.zero_le _, rfl, (by show _ = _; rfl), rfl⟩
  case round =>
    obtain ⟨j, hj, rfl, HT, rfl⟩ := hrel
    by_cases hjm : j < 16
    · have hjm' : (j : Int) < 16 := by omega
      have hj2 : j < l.length := by omega
      have hcell := HR.out j hj2
      by_cases hx : l[j] = 255
      · have hx' := byte_eq.2 hx
        have HE := hide (take_ff hj2 HT.out hx)
        generalize l[j] = x at *
        clear hx CN CK
        go_wp2_with fail
        exact ⟨⟨j + 1, hjm, by go_num, HE, trivial⟩, by simp [intOf]; omega⟩
      · have hx' : ((l[j].toNat : Int) != 255) = true := by
          cases h : ((l[j].toNat : Int) != 255)
          · exact absurd (byte_eq.1 h) hx
          · rfl
        have HE := hide (not_ff hj2 hjm hx)
        generalize l[j] = x at *
        clear hx CN CK
        go_wp2_with fail
        go_ret3
        refine ⟨?_, rfl⟩
        unfold hdV
        rw [if_neg HE.out]
        rfl
    · obtain rfl : j = 16 := by omega
      clear hjm
      have HV : Hid (val ((l.drop 16).take 2) = hdN l) := rfl
      rw [HV.out] at CN
      rw [HKD.out] at CK
      by_cases hok : 19 ≤ hdN l ∧ hdN l ≤ 4096 ∧ 1 ≤ kd l ∧ kd l ≤ 4
      · have HE : Hid (hdOk l) := ⟨HT.out, hok.1, hok.2.1, hok.2.2.1, hok.2.2.2⟩
        have n1 : ¬ ((hdN l : Nat) : Int) < 19 := by omega
        have n2 : ¬ (4096 : Int) < ((hdN l : Nat) : Int) := by omega
        have n3 : ¬ ((kd l : Nat) : Int) < 1 := by omega
        have n4 : ¬ (4 : Int) < ((kd l : Nat) : Int) := by omega
        clear hok
        go_wp2_with (first | (go_at_call_of 65 (Value.int .i64 16); refine CN.out.mono ?_; rintro e w1 ⟨rfl, rfl⟩) | (go_at_call_of 65 (Value.int .i64 18); refine CK.out.mono ?_; rintro e w1 ⟨rfl, rfl⟩))
        go_ret3
        refine ⟨?_, rfl⟩
        unfold hdV
        rw [if_pos HE.out]
        rfl
      · have HE : Hid (¬ hdOk l) := fun h => hok ⟨h.2.1, h.2.2.1, h.2.2.2.1, h.2.2.2.2⟩
        have hx : (decide (((hdN l : Nat) : Int) < 19) || decide ((4096 : Int) < ((hdN l : Nat) : Int)) || decide (((kd l : Nat) : Int) < 1) || decide ((4 : Int) < ((kd l : Nat) : Int))) = true := by
          simp only [Bool.or_eq_true, decide_eq_true_eq]
          omega
        clear hok
        go_wp2_with (first | (go_at_call_of 65 (Value.int .i64 16); refine CN.out.mono ?_; rintro e w1 ⟨rfl, rfl⟩) | (go_at_call_of 65 (Value.int .i64 18); refine CK.out.mono ?_; rintro e w1 ⟨rfl, rfl⟩))
        all_goals
          go_ret3
          refine ⟨?_, rfl⟩
          unfold hdV
          rw [if_neg HE.out]
          rfl
end Go.Proofs.Ytkhmhmopcofejaa
