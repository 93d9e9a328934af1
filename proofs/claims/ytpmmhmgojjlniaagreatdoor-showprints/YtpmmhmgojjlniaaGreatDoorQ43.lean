/- What a router that may be is, as the document asks it. -/
import Derived.Test.YtpmmhmgojjlniaaGreatDoorQ01
import Derived.Test.YtpmmhmgojjlniaaGreatDoorQ02
import Derived.Test.YtpmmhmgojjlniaaGreatDoorQ29
import Derived.Test.YtpmmhmgojjlniaaGreatDoorQ31
import Derived.Test.YtpmmhmgojjlniaaGreatDoorQ33
import Derived.Test.YtpmmhmgojjlniaaGreatDoorQ42
import Derived.Laws.BitsAllLaws
namespace Go.Proofs.YtpmmhmgojjlniaaGreatDoor
open Go.RowKit Go.Sort
theorem as_inR (n : Int) : Ar.Is.as n = inR n 1 65535 := by
  unfold Ar.Is.as inR
  rw [Bool.eq_iff_iff]
  simp only [Bool.and_eq_true, decide_eq_true_eq]
  omega
theorem uniq_take {α : Type} (key : α → ByteArray) (l : List α) : uniq key l = true ↔ ∀ i (h : i < l.length), ((l.take i).map key).any (fun x => decide (x = key l[i])) = false := by
  rw [uniq_iff, nodup_take]
  constructor
  · intro h i hi
    have := h i (by rw [List.length_map]; exact hi)
    rw [List.getElem_map, ← List.map_take] at this
    rw [List.any_eq_false]
    intro x hx hd
    exact this (of_decide_eq_true hd ▸ hx)
  · intro h i hi
    rw [List.length_map] at hi
    rw [List.getElem_map, ← List.map_take]
    intro hm
    have := h i hi
    rw [List.any_eq_false] at this
    exact this _ hm (decide_eq_true rfl)
theorem uniq_pairs (l : List (Int × Int)) : uniq (fun p => p) l = true ↔ ∀ i k (h : i < l.length) (hk : k < i), l[k] ≠ l[i] := by
  rw [uniq_iff, List.map_id']
  constructor
  · intro h i k hi hk e
    have := (List.pairwise_iff_getElem.1 h) k i (by omega) hi hk
    exact this e
  · intro h
    rw [List.Nodup, List.pairwise_iff_getElem]
    intro i j hi hj hij
    exact h j i hj hij
structure RtD (r : Rt) : Prop where
  asn : Ar.Is.as r.asn = true
  id : Ar.Is.as r.id = true
  nets : r.nets.length ≤ 16
  nbs : r.nbs.length ≤ 16
  links : r.links.length ≤ 16
  net : ∀ i (h : i < r.nets.length), Ax.Ad.may r.nets[i].1 r.nets[i].2 = true
  dup : ∀ i k (h : i < r.nets.length) (hk : k < i), r.nets[k] ≠ r.nets[i]
  nb : ∀ i (h : i < r.nbs.length), rnm2 r.nbs[i].name ((r.nbs.take i).map Nb.name) = true ∧ lackOk r.nbs[i].imp = true ∧ lackOk r.nbs[i].exp = true
  link : ∀ i (h : i < r.links.length), rnm2 r.links[i].name ((r.links.take i).map Lk.name) = true ∧ 0 ≤ r.links[i].cost ∧ r.links[i].cost ≤ 65536
theorem rnm2_iff (s : ByteArray) (l : List ByteArray) : rnm2 s l = true ↔ l.any (fun x => decide (x = s)) = false ∧ nmOk s = true := by
  unfold rnm2
  rw [Bool.and_eq_true, Bool.not_eq_true']
theorem rtOk_iff {r : Rt} (hw : ∀ p ∈ r.nets, U32 p.1) : rtOk r = true ↔ RtD r := by
  constructor
  · intro h
    simp only [rtOk, netsOk, nbsOk, linksOk, nbOk, lkOk, Bool.and_eq_true, decide_eq_true_eq, List.all_eq_true] at h
    obtain ⟨⟨⟨⟨⟨ha, hi⟩, hn, hn2⟩, hu⟩, ⟨hb, hb2⟩, hb3⟩, ⟨hl, hl2⟩, hl3⟩ := h
    refine ⟨by rw [as_inR]; exact ha, by rw [as_inR]; exact hi, by omega, by omega, by omega, fun i h => mayX_may (hw _ (List.getElem_mem h)) (hn2 _ (List.getElem_mem h)), (uniq_pairs _).1 hu, fun i h => ?_, fun i h => ?_⟩
    · have := hb2 _ (List.getElem_mem h)
      exact ⟨(rnm2_iff _ _).2 ⟨(uniq_take _ _).1 hb3 i h, this.1⟩, this.2.1, this.2.2⟩
    · have := hl2 _ (List.getElem_mem h)
      exact ⟨(rnm2_iff _ _).2 ⟨(uniq_take _ _).1 hl3 i h, this.1⟩, by have := this.2; simp only [inR, Bool.and_eq_true, decide_eq_true_eq] at this; exact this⟩
  · rintro ⟨h1, h2, h3, h4, h5, h6, h7, h8, h9⟩
    simp only [rtOk, netsOk, nbsOk, linksOk, nbOk, lkOk, Bool.and_eq_true, decide_eq_true_eq, List.all_eq_true]
    refine ⟨⟨⟨⟨⟨by rw [← as_inR]; exact h1, by rw [← as_inR]; exact h2⟩, by omega, fun x hx => ?_⟩, (uniq_pairs _).2 h7⟩, ⟨by omega, fun x hx => ?_⟩, (uniq_take _ _).2 fun i h => ((rnm2_iff _ _).1 (h8 i h).1).1⟩, ⟨by omega, fun x hx => ?_⟩, (uniq_take _ _).2 fun i h => ((rnm2_iff _ _).1 (h9 i h).1).1⟩
    · obtain ⟨i, hi, rfl⟩ := List.getElem_of_mem hx
      exact may_mayX (hw _ hx) (h6 i hi)
    · obtain ⟨i, hi, rfl⟩ := List.getElem_of_mem hx
      have := h8 i hi
      exact ⟨((rnm2_iff _ _).1 this.1).2, this.2.1, this.2.2⟩
    · obtain ⟨i, hi, rfl⟩ := List.getElem_of_mem hx
      have := h9 i hi
      exact ⟨((rnm2_iff _ _).1 this.1).2, by simp only [inR, Bool.and_eq_true, decide_eq_true_eq]; exact this.2⟩
end Go.Proofs.YtpmmhmgojjlniaaGreatDoor
namespace Go.Proofs.YtpmmhmgojjlniaaGreatDoor
open Go.RowKit Go.Sort
theorem nms_snoc {α : Type} (f : α → ByteArray) (l : List α) (k : Nat) (h : k < l.length) : ((l.take (k + 1)).map f).map Value.string = ((l.take k).map f).map Value.string ++ [.string (f l[k])] := by
  rw [List.take_succ_eq_append_getElem h]
  simp only [List.map_append, List.map_cons, List.map_nil]
end Go.Proofs.YtpmmhmgojjlniaaGreatDoor
namespace Go.Proofs.YtpmmhmgojjlniaaGreatDoor.Ax.Ad
open Go
end Go.Proofs.YtpmmhmgojjlniaaGreatDoor.Ax.Ad
namespace Go.Proofs.YtpmmhmgojjlniaaGreatDoor.Ax.Ad
open Go
end Go.Proofs.YtpmmhmgojjlniaaGreatDoor.Ax.Ad
namespace Go.Proofs.YtpmmhmgojjlniaaGreatDoor.Ax.Ad
end Go.Proofs.YtpmmhmgojjlniaaGreatDoor.Ax.Ad
namespace Go.Proofs.YtpmmhmgojjlniaaGreatDoor.Ax.Ad
end Go.Proofs.YtpmmhmgojjlniaaGreatDoor.Ax.Ad
namespace Go.Proofs.YtpmmhmgojjlniaaGreatDoor.Ax.Ad
/-- The i-th bit of an address, from the highest on. -/
def bit (a : Int) (i : Nat) : Int := a / 2 ^ (31 - i) % 2

theorem bit_nat (A i : Nat) : bit (A : Int) i = ((A / 2 ^ (31 - i) % 2 : Nat) : Int) := by
  unfold bit
  simp

theorem bit_test (A i : Nat) : bit (A : Int) i = if A.testBit (31 - i) then 1 else 0 := by
  rw [bit_nat, Nat.testBit_eq_decide_div_mod_eq]
  rcases Nat.mod_two_eq_zero_or_one (A / 2 ^ (31 - i)) with h | h <;> simp [h]

theorem cut_nat (A B : Nat) : cut (A : Int) (B : Int) = ((A / 2 ^ (32 - B) * 2 ^ (32 - B) : Nat) : Int) := by
  unfold cut sz
  rw [Int.toNat_natCast]; simp

/-- A prefix may be just if all bits behind the counting ones are 0. -/
theorem may_bits (a : Int) (B : Nat) (h0 : 0 ≤ a) (hB : B ≤ 32) : cut a B = a ↔ ∀ i, B ≤ i → i < 32 → bit a i = 0 := by
  obtain ⟨A, rfl⟩ := Int.eq_ofNat_of_zero_le h0
  rw [cut_nat]
  constructor
  · intro h i hi hi2
    rw [bit_test]
    have h' : A / 2 ^ (32 - B) * 2 ^ (32 - B) = A := by omega
    have ht : A.testBit (31 - i) = false := by
      rw [← h', Nat.testBit_mul_two_pow]
      have : ¬ 32 - B ≤ 31 - i := by omega
      simp [this]
    simp [ht]
  · intro h
    have : A / 2 ^ (32 - B) * 2 ^ (32 - B) = A := by
      apply Nat.eq_of_testBit_eq
      intro j
      rw [Nat.testBit_mul_two_pow, Nat.testBit_div_two_pow]
      by_cases hj : 32 - B ≤ j
      · simp [hj, show j - (32 - B) + (32 - B) = j by omega]
      · have := h (31 - j) (by omega) (by omega)
        rw [bit_test, show 31 - (31 - j) = j by omega] at this
        have ht : A.testBit j = false := by
          cases ht : A.testBit j
          · rfl
          · rw [ht] at this; simp at this
        simp [hj, ht]
    rw [this]

theorem bit_le (a : Int) (i : Nat) : 0 ≤ bit a i ∧ bit a i ≤ 1 := by unfold bit; omega
end Go.Proofs.YtpmmhmgojjlniaaGreatDoor.Ax.Ad
namespace Go.Proofs.YtpmmhmgojjlniaaGreatDoor.Ax
open Go.RowKit
set_option maxHeartbeats 400000 in
theorem bit_any (a : Int) (i : Nat) (w : World) (h0 : 0 ≤ a) (h1 : a ≤ 4294967295) (hi : i ≤ 31) :
    Calls Tryz.prog 140 #[.int .u32 a, .int .i64 i] w fun e w' => e = .returned (.int .u32 (Ad.bit a i)) ∧ w' = w := by
  go_enter Tryz.func140, Tryz.ntmps140
  go_wp2_with fail
  go_loop [0, 1] (fun s t => ∃ k : Nat, i ≤ k ∧ k ≤ 31 ∧ t = .int .i64 k ∧ s = .int .u32 (a / 2 ^ (k - i))) (fun _ t => 31 - (intOf t).toNat)
  case atStart => exact ⟨i, Nat.le_refl _, hi, rfl, by simp⟩
  case round =>
    obtain ⟨k, hk1, hk2, rfl, rfl⟩ := hrel
    have hb0 : 0 ≤ a / 2 ^ (k - i) := Int.ediv_nonneg h0 (Int.le_of_lt (Int.pow_pos (by decide)))
    have hb1 : a / 2 ^ (k - i) ≤ 4294967295 := Int.le_trans (Int.ediv_le_self _ h0) h1
    by_cases hlt : k < 31
    · have HE : Hid (a / 2 ^ (k - i) / 2 = a / 2 ^ (k + 1 - i)) := by
        show a / 2 ^ (k - i) / 2 = a / 2 ^ (k + 1 - i)
        rw [show k + 1 - i = (k - i) + 1 by omega, Int.pow_succ, Int.ediv_ediv_of_nonneg (Int.le_of_lt (Int.pow_pos (by decide)))]
      generalize a / 2 ^ (k - i) = z at *
      go_wp2_with fail
      go_round
      case rel => exact ⟨k + 1, by omega, by omega, by go_num, by rw [← HE.out]⟩
      case measure => simp [intOf]; omega
    · have hk31 : k = 31 := by omega
      subst hk31
      have HE : Hid (Ad.bit a i = a / 2 ^ (31 - i) % 2) := rfl
      generalize a / 2 ^ (31 - i) = z at *
      go_wp2_with fail
      go_ret
      exact ⟨ret_int HE.out.symm, rfl⟩
end Go.Proofs.YtpmmhmgojjlniaaGreatDoor.Ax
namespace Go.Proofs.YtpmmhmgojjlniaaGreatDoor.Ax
open Go.RowKit
set_option maxHeartbeats 1000000 in
theorem refMay_in (a : Int) (B : Nat) (w : World) (h0 : 0 ≤ a) (h1 : a ≤ 4294967295) (hB : B ≤ 32) :
    Calls Tryz.prog 68 #[.agg #[.int .u32 a, .int .i64 (B : Int)]] w fun e w' => e = .returned (.bool (Ad.may a B)) ∧ Below w.heap.size w w' := by
  have hlo : ¬ (B : Int) < 0 := by omega
  have hhi : ¬ (32 : Int) < (B : Int) := by omega
  go_enter Tryz.func68, Tryz.ntmps68
  go_wp2_with fail
  go_loop [3] (fun t => ∃ k : Nat, B ≤ k ∧ k ≤ 32 ∧ t = .int .i64 k ∧ ∀ j, B ≤ j → j < k → Ad.bit a j = 0) (fun t => 32 - (intOf t).toNat)
  case atStart => exact ⟨B, Nat.le_refl _, hB, rfl, fun j h h' => by omega⟩
  case round =>
    obtain ⟨k, hk1, hk2, rfl, hall⟩ := hrel
    have HALL := hide hall
    clear hall
    by_cases hlt : k < 32
    · have hbb := Ad.bit_le a k
      by_cases hz : Ad.bit a k = 0
      · have hne : (Ad.bit a k != 0) = false := by simp [hz]
        have HZ := hide hz
        clear hz
        go_wp2_with (go_at_call 140; refine (bit_any a k _ h0 h1 (by omega)).mono ?_; rintro e w1 ⟨rfl, rfl⟩)
        go_round
        case rel =>
          refine ⟨k + 1, by omega, by omega, by go_num, fun j hj hj2 => ?_⟩
          rcases Nat.lt_succ_iff_lt_or_eq.1 hj2 with h | rfl
          · exact HALL.out j hj h
          · exact HZ.out
        case measure => simp [intOf]; omega
      · have hne : (Ad.bit a k != 0) = true := by simpa using hz
        have HZ := hide hz
        clear hz
        go_wp2_with (go_at_call 140; refine (bit_any a k _ h0 h1 (by omega)).mono ?_; rintro e w1 ⟨rfl, rfl⟩)
        go_ret
        refine ⟨ret_bool ?_, balloc (brefl _) _⟩
        have hm : Ad.may a B = false := by
          cases hm : Ad.may a B
          · rfl
          · exact absurd ((Ad.may_bits a B h0 hB).1 ((Ad.may_iff _ _).1 hm).2.2 k hk1 hlt) HZ.out
        rw [hm]
    · go_wp2_with fail
      go_ret
      refine ⟨ret_bool ?_, balloc (brefl _) _⟩
      have hm : Ad.may a B = true := (Ad.may_iff _ _).2 ⟨by omega, by omega, (Ad.may_bits a B h0 hB).2 fun i hi hi2 => HALL.out i hi (by omega)⟩
      rw [hm]

set_option maxHeartbeats 1000000 in
theorem refMay_any (a b : Int) (w : World) (h0 : 0 ≤ a) (h1 : a ≤ 4294967295) :
    Calls Tryz.prog 68 #[.agg #[.int .u32 a, .int .i64 b]] w fun e w' => e = .returned (.bool (Ad.may a b)) ∧ Below w.heap.size w w' := by
  by_cases hb : 0 ≤ b
  · by_cases hb2 : b ≤ 32
    · obtain ⟨B, rfl⟩ := Int.eq_ofNat_of_zero_le hb
      exact refMay_in a B w h0 h1 (by omega)
    · have hlo : ¬ b < 0 := by omega
      have hhi : 32 < b := by omega
      have hm : Ad.may a b = false := by
        cases hm : Ad.may a b
        · rfl
        · have := (Ad.may_iff _ _).1 hm; omega
      rw [hm]
      go_enter Tryz.func68, Tryz.ntmps68
      go_wp2_with fail
      go_ret
      exact ⟨rfl, balloc (brefl _) _⟩
  · have hlo : b < 0 := by omega
    have hm : Ad.may a b = false := by
      cases hm : Ad.may a b
      · rfl
      · have := (Ad.may_iff _ _).1 hm; omega
    rw [hm]
    go_enter Tryz.func68, Tryz.ntmps68
    go_wp2_with fail
    go_ret
    exact ⟨rfl, balloc (brefl _) _⟩

theorem refMay_is (a b : Int) (r : Bool) (h : Ad.may a b = r) (w : World) (ha : 0 ≤ a) (ha2 : a ≤ 4294967295) :
    Calls Tryz.prog 68 #[.agg #[.int .u32 a, .int .i64 b]] w fun e w' => e = .returned (.bool r) ∧ Below w.heap.size w w' := by
  rw [← h]; exact refMay_any a b w ha ha2

end Go.Proofs.YtpmmhmgojjlniaaGreatDoor.Ax
namespace Go.Proofs.YtpmmhmgojjlniaaGreatDoor.Ax
open Go.RowKit
end Go.Proofs.YtpmmhmgojjlniaaGreatDoor.Ax
