/- The contract of addr's number. -/
import Derived.Test.YtfkajefminopjaaDoorP1
namespace Go.Proofs.YtfkajefminopjaaDoor
open Go.RowKit

theorem Ad.num_snoc (l : List UInt8) (c : UInt8) : Ad.num (l ++ [c]) = 10 * Ad.num l + ((c.toNat : Int) - 48) := by
  unfold Ad.num; rw [List.foldl_append]; rfl
theorem Ad.digs_snoc (l : List UInt8) (c : UInt8) : Ad.digs (l ++ [c]) = (Ad.digs l && Ad.dig c) := by
  unfold Ad.digs Ad.dig; simp [List.all_append]
theorem Ad.take_snoc (s : ByteArray) (k : Nat) (h : k < s.size) : s.data.toList.take (k + 1) = s.data.toList.take k ++ [s[k]] := by
  rw [List.take_succ_eq_append_getElem (by simpa using h)]; rfl
theorem Ad.dig_bd (c : UInt8) (h : Ad.dig c = true) : (48 : Int) ≤ (c.toNat : Int) ∧ (c.toNat : Int) ≤ 57 := by
  simp [Ad.dig] at h
  omega

theorem Ad.num_bd (l : List UInt8) (h : Ad.digs l = true) : 0 ≤ Ad.num l ∧ Ad.num l < 10 ^ l.length := by
  have key : ∀ (n : Nat) (l : List UInt8), l.length = n → Ad.digs l = true → 0 ≤ Ad.num l ∧ Ad.num l < 10 ^ l.length := by
    intro n
    induction n with
    | zero =>
      intro l hl _
      obtain rfl := List.length_eq_zero_iff.1 hl
      simp [Ad.num]
    | succ n ih =>
      intro l hl hd
      obtain ⟨m, c, rfl⟩ : ∃ m c, l = m ++ [c] := ⟨l.dropLast, l.getLast (by intro h; rw [h] at hl; simp at hl), (List.dropLast_concat_getLast _).symm⟩
      rw [Ad.digs_snoc, Bool.and_eq_true] at hd
      have := ih m (by simpa using hl) hd.1
      have hc := Ad.dig_bd c hd.2
      rw [Ad.num_snoc, List.length_append]
      have hp : (10 : Int) ^ (m.length + [c].length) = 10 ^ m.length * 10 := Int.pow_succ 10 m.length
      rw [hp]
      omega
  exact key l.length l rfl h

theorem Ad.digs_take (s : ByteArray) (k : Nat) (h : Ad.digs s.data.toList = true) : Ad.digs (s.data.toList.take k) = true := by
  unfold Ad.digs at *
  rw [List.all_eq_true] at *
  exact fun x hx => h x (List.mem_of_mem_take hx)

set_option maxHeartbeats 1000000 in
theorem number_long (s : ByteArray) (m : Int) (w : World) (hs : s.size ≤ maxLen) (h : 3 < s.size) :
    Calls Tryd.prog 34 #[.string s, .int .i64 m] w fun e w' => e = .returned (.tuple #[.int .i64 0, .bool false]) ∧ w' = w := by
  unfold maxLen at hs
  have h3 : (3 : Int) < (s.size : Int) := by omega
  go_enter Tryd.func34, Tryd.ntmps34
  go_wp2
  go_ret2
  exact ⟨rfl, rfl⟩

/-- What number hands back. -/
def Ad.numOf (l : List UInt8) (m : Int) : Value := if 3 < l.length ∨ m < Ad.num l then .tuple #[.int .i64 0, .bool false] else .tuple #[.int .i64 (Ad.num l), .bool true]

set_option maxHeartbeats 1000000 in
theorem number_any (s : ByteArray) (m : Int) (w : World) (hs : s.size ≤ maxLen) (hd : Ad.digs s.data.toList = true) :
    Calls Tryd.prog 34 #[.string s, .int .i64 m] w fun e w' => e = .returned (Ad.numOf s.data.toList m) ∧ w' = w := by
  by_cases h : 3 < s.size
  · refine (number_long s m w hs h).mono ?_
    rintro e w' ⟨rfl, rfl⟩
    refine ⟨?_, rfl⟩
    unfold Ad.numOf
    rw [Ad.size_list, if_pos (.inl h)]
  · have h3 : ¬ (3 : Int) < (s.size : Int) := by omega
    have hs3 : s.size ≤ 3 := by omega
    have HD := hide hd
    clear hd hs h
    go_enter Tryd.func34, Tryd.ntmps34
    go_wp2
    go_loop [6, 13] (fun n t => ∃ k : Nat, k ≤ s.size ∧ t = .int .i64 k ∧ n = .int .i64 (Ad.num (s.data.toList.take k))) (fun _ t => s.size - (intOf t).toNat)
    case atStart => exact ⟨0, Nat.zero_le _, rfl, by simp [Ad.num]⟩
    case round =>
      obtain ⟨k, hk, rfl, rfl⟩ := hrel
      have hbd := Ad.num_bd (s.data.toList.take k) (Ad.digs_take s k HD.out)
      have hlen : (s.data.toList.take k).length = k := by rw [List.length_take, Ad.size_list]; omega
      rw [hlen] at hbd
      have hp : (10 : Int) ^ k ≤ 1000 := by
        have : (10 : Nat) ^ k ≤ 10 ^ 3 := Nat.pow_le_pow_right (by decide) (by omega)
        have h2 : ((10 ^ k : Nat) : Int) ≤ 1000 := by omega
        simpa using h2
      have hn0 : 0 ≤ Ad.num (s.data.toList.take k) := hbd.1
      have hn1 : Ad.num (s.data.toList.take k) ≤ 999 := by omega
      clear hbd hlen hp
      by_cases hlt : k < s.size
      · have hb := Ad.dig_bd s[k] ((Ad.digs_iff s).1 HD.out k hlt)
        obtain ⟨hb1, hb2⟩ := hb
        have HS : Hid (Ad.num (s.data.toList.take (k + 1)) = 10 * Ad.num (s.data.toList.take k) + ((s[k].toNat : Int) - 48)) := by
          show _ = _
          rw [Ad.take_snoc s k hlt, Ad.num_snoc]
        generalize Ad.num (s.data.toList.take k) = z at *
        go_wp2
        go_round
        case rel => exact ⟨k + 1, by omega, by go_num, by rw [HS.out]⟩
        case measure => simp [intOf]; omega
      · have hk' : k = s.size := by omega
        subst hk'
        have ht : s.data.toList.take s.size = s.data.toList := List.take_of_length_le (by rw [Ad.size_list]; omega)
        rw [ht] at hn0 hn1 ⊢
        have HN : Hid (Ad.numOf s.data.toList m = if m < Ad.num s.data.toList then .tuple #[.int .i64 0, .bool false] else .tuple #[.int .i64 (Ad.num s.data.toList), .bool true]) := by
          show _ = _
          unfold Ad.numOf
          rw [Ad.size_list]
          by_cases hm : m < Ad.num s.data.toList
          · rw [if_pos (.inr hm), if_pos hm]
          · rw [if_neg (by omega), if_neg hm]
        clear ht
        generalize Ad.num s.data.toList = z at *
        by_cases hm : m < z
        · go_wp2
          go_ret2
          exact ⟨by rw [HN.out, if_pos hm]; rfl, rfl⟩
        · go_wp2
          go_ret2
          exact ⟨by rw [HN.out, if_neg (by omega)]; rfl, rfl⟩
end Go.Proofs.YtfkajefminopjaaDoor
