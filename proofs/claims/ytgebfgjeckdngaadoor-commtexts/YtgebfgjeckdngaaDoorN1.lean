/- The contract of comm's isNumber. -/
import Derived.Test.YtgebfgjeckdngaaDoorG1
import Derived.LoopN
namespace Go.Proofs.YtgebfgjeckdngaaDoor
open Go.RowKit

/-- Digits alone. -/
def Ad.digs (l : List UInt8) : Bool := l.all fun c => decide (48 ≤ c.toNat) && decide (c.toNat ≤ 57)
/-- A 0 ahead of others. -/
def Ad.zeroAhead (l : List UInt8) : Bool := decide (1 < l.length) && (l.head? == some 48)
/-- Is a text digits without a 0 ahead? -/
def Ad.isNum (l : List UInt8) : Bool := !l.isEmpty && !Ad.zeroAhead l && Ad.digs l
/-- The number of some digits. -/
def Ad.num (l : List UInt8) : Int := l.foldl (fun n c => 10 * n + ((c.toNat : Int) - 48)) 0

theorem Ad.size_list (s : ByteArray) : s.data.toList.length = s.size := by simp
theorem Ad.get_list (s : ByteArray) (k : Nat) (h : k < s.size) : s.data.toList[k]'(by simpa using h) = s[k] := rfl
theorem Ad.empty_iff (s : ByteArray) : s.toList.isEmpty = decide (s.size = 0) := by
  rw [ByteArray.toList_eq]
  obtain ⟨⟨l⟩⟩ := s
  cases l <;> simp [ByteArray.size]

/-- One byte is a digit. -/
def Ad.dig (c : UInt8) : Bool := decide (48 ≤ c.toNat) && decide (c.toNat ≤ 57)

theorem Ad.digs_iff (s : ByteArray) : Ad.digs s.data.toList = true ↔ ∀ k (h : k < s.size), Ad.dig s[k] = true := by
  unfold Ad.digs
  rw [List.all_eq_true]
  constructor
  · intro h k hk
    exact h s[k] (by rw [← Ad.get_list s k hk]; exact List.getElem_mem _)
  · intro h x hx
    obtain ⟨k, hk, rfl⟩ := List.getElem_of_mem hx
    exact h k (by simpa using hk)

theorem Ad.head_iff (s : ByteArray) (h : 0 < s.size) : s.data.toList.head? = some s[0] := by
  rw [← Ad.get_list s 0 h, List.head?_eq_getElem?]
  simp

set_option maxHeartbeats 1000000 in
theorem isNumber_loop (s : ByteArray) (w : World) (hs : s.size ≤ maxLen) (h0 : 0 < s.size) (hz : Ad.zeroAhead s.data.toList = false) :
    Calls Tryd.prog 35 #[.string s] w fun e w' => e = .returned (.bool (Ad.digs s.data.toList)) ∧ w' = w := by
  unfold maxLen at hs
  have he : s.toList.isEmpty = false := by rw [Ad.empty_iff]; exact decide_eq_false (by omega)
  have hc : (s[0].toNat : Int) = 48 → ¬ (1 : Int) < (s.size : Int) := by
    intro h48 h1
    unfold Ad.zeroAhead at hz
    rw [Ad.head_iff s h0] at hz
    have h2 : s[0] = 48 := UInt8.toNat_inj.1 (by show s[0].toNat = 48; omega)
    rw [h2] at hz
    simp at hz
    omega
  have HZ := hide hc
  clear hc hz
  by_cases h48 : (s[0].toNat : Int) = 48
  all_goals
    first | (have h1 := HZ.out h48) | skip
    go_enter Tryd.func35, Tryd.ntmps35
    go_wp2
    go_loop [18] (fun t => ∃ k : Nat, k ≤ s.size ∧ t = .int .i64 k ∧ ∀ j (h : j < s.size), j < k → Ad.dig s[j] = true) (fun t => s.size - (intOf t).toNat)
    case atStart => exact ⟨0, Nat.zero_le _, rfl, fun j _ h => absurd h (Nat.not_lt_zero _)⟩
    case round =>
      obtain ⟨k, hk, rfl, hall⟩ := hrel
      have HALL := hide hall
      clear hall
      by_cases hlt : k < s.size
      · by_cases hd1 : (s[k].toNat : Int) < 48
        · go_wp2
          go_ret
          refine ⟨ret_bool ?_, rfl⟩
          cases hh : Ad.digs s.data.toList
          · rfl
          · have := (Ad.digs_iff s).1 hh k hlt
            simp [Ad.dig] at this
            omega
        · by_cases hd2 : (57 : Int) < (s[k].toNat : Int)
          · go_wp2
            go_ret
            refine ⟨ret_bool ?_, rfl⟩
            cases hh : Ad.digs s.data.toList
            · rfl
            · have := (Ad.digs_iff s).1 hh k hlt
              simp [Ad.dig] at this
              omega
          · go_wp2
            go_round
            case rel =>
              refine ⟨k + 1, by omega, by go_num, fun j hj hjk => ?_⟩
              rcases Nat.lt_succ_iff_lt_or_eq.1 hjk with h | rfl
              · exact HALL.out j hj h
              · simp [Ad.dig]; omega
            case measure => simp [intOf]; omega
      · go_wp2
        go_ret
        refine ⟨ret_bool ?_, rfl⟩
        symm
        exact (Ad.digs_iff s).2 fun j hj => HALL.out j hj (by omega)

set_option maxHeartbeats 1000000 in
theorem isNumber_any (s : ByteArray) (w : World) (hs : s.size ≤ maxLen) :
    Calls Tryd.prog 35 #[.string s] w fun e w' => e = .returned (.bool (Ad.isNum s.data.toList)) ∧ w' = w := by
  by_cases h0 : s.size = 0
  · have he : s.toList.isEmpty = true := by rw [Ad.empty_iff]; simp [h0]
    have hl : s.data.toList = [] := List.length_eq_zero_iff.1 (by rw [Ad.size_list]; exact h0)
    have HN : Hid (Ad.isNum s.data.toList = false) := by show _ = _; rw [hl]; rfl
    clear hl h0
    go_enter Tryd.func35, Tryd.ntmps35
    go_wp2
    go_ret
    exact ⟨ret_bool HN.out.symm, rfl⟩
  · have h0' : 0 < s.size := by omega
    have hne : s.data.toList.isEmpty = false := by
      cases hh : s.data.toList with
      | nil => have := Ad.size_list s; rw [hh] at this; simp at this; omega
      | cons a b => rfl
    cases hz : Ad.zeroAhead s.data.toList
    · have HN : Hid (Ad.isNum s.data.toList = Ad.digs s.data.toList) := by show _ = _; unfold Ad.isNum; rw [hne, hz]; rfl
      refine (isNumber_loop s w hs h0' hz).mono ?_
      rintro e w' ⟨rfl, rfl⟩
      exact ⟨ret_bool HN.out.symm, rfl⟩
    · have HN : Hid (Ad.isNum s.data.toList = false) := by show _ = _; unfold Ad.isNum; rw [hz]; simp
      unfold Ad.zeroAhead at hz
      rw [Ad.head_iff s h0'] at hz
      simp at hz
      have h1 : (1 : Int) < (s.size : Int) := by have := hz.1; omega
      have h48 : (s[0].toNat : Int) = 48 := by rw [hz.2]; rfl
      have he : s.toList.isEmpty = false := by rw [Ad.empty_iff]; exact decide_eq_false (by omega)
      clear hz hne h0
      unfold maxLen at hs
      go_enter Tryd.func35, Tryd.ntmps35
      go_wp2
      go_ret
      exact ⟨ret_bool HN.out.symm, rfl⟩
end Go.Proofs.YtgebfgjeckdngaaDoor
