/- The contracts of comm's number, of strings.Cut at one byte, and of the document's digits. -/
import Derived.Test.YtgebfgjeckdngaaDoorN2
namespace Go.Proofs.YtgebfgjeckdngaaDoor
open Go.RowKit

set_option maxHeartbeats 1000000 in
theorem number_is (s : ByteArray) (n : Int) (hn : Ad.num s.data.toList = n) (w : World) (hs5 : s.size ≤ 5) (hd : Ad.digs s.data.toList = true) :
    Calls Tryd.prog 36 #[.string s] w fun e w' => e = .returned (.int .i64 n) ∧ w' = w := by
  have HD := hide hd
  have HN := hide hn
  clear hd hn
  go_enter Tryd.func36, Tryd.ntmps36
  go_wp2
  go_loop [3, 7] (fun n t => ∃ k : Nat, k ≤ s.size ∧ t = .int .i64 k ∧ n = .int .i64 (Ad.num (s.data.toList.take k))) (fun _ t => s.size - (intOf t).toNat)
  case atStart => exact ⟨0, Nat.zero_le _, rfl, by simp [Ad.num]⟩
  case round =>
    obtain ⟨k, hk, rfl, rfl⟩ := hrel
    have hbd := Ad.num_bd (s.data.toList.take k) (Ad.digs_take s k HD.out)
    have hlen : (s.data.toList.take k).length = k := by rw [List.length_take, Ad.size_list]; omega
    rw [hlen] at hbd
    have hp : (10 : Int) ^ k ≤ 100000 := by
      have : (10 : Nat) ^ k ≤ 10 ^ 5 := Nat.pow_le_pow_right (by decide) (by omega)
      have h2 : ((10 ^ k : Nat) : Int) ≤ 100000 := by omega
      simpa using h2
    have hn0 : 0 ≤ Ad.num (s.data.toList.take k) := hbd.1
    have hn1 : Ad.num (s.data.toList.take k) ≤ 99999 := by omega
    clear hbd hlen hp
    by_cases hlt : k < s.size
    · have hb := Ad.dig_bd s[k] ((Ad.digs_iff s).1 HD.out k hlt)
      obtain ⟨hb1, hb2⟩ := hb
      have HS : Hid (Ad.num (s.data.toList.take (k + 1)) = 10 * Ad.num (s.data.toList.take k) + ((s[k].toNat : Int) - 48)) := by
        show _ = _
        rw [Ad.take_snoc s k hlt, Ad.num_snoc]
      generalize Ad.num (s.data.toList.take k) = z at *
      go_wp2
      go_round
      case rel => exact ⟨k + 1, by omega, by go_num, by rw [HS.out]⟩
      case measure => simp [intOf]; omega
    · have hk' : k = s.size := by omega
      subst hk'
      have ht : s.data.toList.take s.size = s.data.toList := List.take_of_length_le (by rw [Ad.size_list]; omega)
      rw [ht, HN.out] at hn0 hn1 ⊢
      go_wp2
      go_ret
      exact ⟨rfl, rfl⟩

/-- What Cut hands back. -/
def CutGood (s : ByteArray) (w : World) (e : Ending) (w' : World) : Prop :=
  ∃ a b f, e = .returned (.tuple #[.string a, .string b, .bool f]) ∧ ((Ad.cutL s.data.toList 58 = none ∧ a = s ∧ b = ⟨#[]⟩) ∨ Ad.cutL s.data.toList 58 = some (a.data.toList, b.data.toList)) ∧ a.size ≤ s.size ∧ b.size ≤ s.size ∧ Below w.heap.size w w'

set_option maxHeartbeats 2000000 in
theorem cut0_is (s : ByteArray) (w : World) (hs : s.size ≤ 2000) : Calls Tryd.prog 56 #[.string s, .string ⟨#[58]⟩] w (CutGood s w) := by
  have CI := hide (Tryd.stringslite_Index_one s 58 w)
  have hnone := hide (Ad.cutL_none s.data.toList 58)
  have hat := hide (Ad.cutL_at s 58)
  have hsome : Hid (∀ k : Nat, Lib.indexByte s.data.toList 58 = (k : Int) → k < s.size) := by
    show ∀ k : Nat, _
    intro k hk
    have := (List.getElem?_eq_some_iff.1 (Lib.indexByte_some hk).1).1
    simpa using this
  obtain ⟨o, ho⟩ : ∃ o, Lib.indexByte s.data.toList 58 = o := ⟨_, rfl⟩
  rw [ho] at CI hnone hat hsome
  clear ho
  by_cases h0 : 0 ≤ o
  · obtain ⟨k, rfl⟩ := Int.eq_ofNat_of_zero_le h0
    have hk := hsome.out k rfl
    have HC := hide (hat.out k rfl hk)
    have hk1 : ¬ (s.size : Int) < (k : Int) := by omega
    have hk2 : ¬ (s.size : Int) < (k : Int) + 1 := by omega
    clear hat hnone hsome h0
    go_enter Tryd.func56, Tryd.ntmps56
    go_wp2_with fail
    refine CI.out.mono ?_
    rintro e w1 ⟨rfl, rfl⟩
    go_wp2_with fail
    refine wp_region_quiet_below (by kernel_rfl) (by kernel_rfl) ?_
    repeat (go_big_quiet_step (fail))
    refine wpQuiet_nil ?_
    rintro _ ⟨⟨dd, os⟩, rfl⟩
    have hb1 := below_regrown w1 dd os
    generalize Sort.grow (redrawn w1 dd) os = w2 at hb1
    have B1 := hide hb1
    clear hb1
    go_wp2_with fail
    refine bodyPost_ret (v := .tuple #[.string (s.extract 0 k), .string (s.extract (k + 1) s.size), .bool true]) (by simp [results, Tryd.results56, go_sem]) rfl ⟨_, _, _, rfl, .inr HC.out, ?_, ?_, B1.out⟩
    · simp; omega
    · simp
  · have HC := hide (hnone.out (by omega))
    clear hat hnone hsome
    go_enter Tryd.func56, Tryd.ntmps56
    go_wp2_with fail
    refine CI.out.mono ?_
    rintro e w1 ⟨rfl, rfl⟩
    go_wp2_with fail
    exact bodyPost_ret (v := .tuple #[.string s, .string ⟨#[]⟩, .bool false]) (by simp [results, Tryd.results56, go_sem]) rfl ⟨_, _, _, rfl, .inl ⟨HC.out, rfl, rfl⟩, Nat.le_refl _, Nat.zero_le _, brefl _⟩

theorem cut_is (s : ByteArray) (w : World) (hs : s.size ≤ 2000) : Calls Tryd.prog 34 #[.string s, .string ⟨#[58]⟩] w (CutGood s w) := by
  go_enter Tryd.func34, Tryd.ntmps34
  go_wp2_with fail
  refine (cut0_is s w hs).mono ?_
  rintro e w1 ⟨a, b, f, rfl, hc, ha, hb, hb1⟩
  have HC := hide hc
  clear hc
  go_wp2_with fail
  exact bodyPost_ret (v := .tuple #[.string a, .string b, .bool f]) (by simp [results, Tryd.results34, go_sem]) rfl ⟨a, b, f, rfl, HC.out, ha, hb, hb1⟩
end Go.Proofs.YtgebfgjeckdngaaDoor
