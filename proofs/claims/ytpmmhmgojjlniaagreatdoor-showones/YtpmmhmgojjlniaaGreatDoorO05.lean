/- The contracts of addr's isNumber and number. -/
import Derived.Test.YtpmmhmgojjlniaaGreatDoorO04
import Derived.LoopN
import Derived.Lib.IndexLaws
import Derived.Lib.IndexBytes
namespace Go.Proofs.YtpmmhmgojjlniaaGreatDoor.Ax
open Go.RowKit

/-- Digits alone. -/
def Ad.digs (l : List UInt8) : Bool := l.all fun c => decide (48 ≤ c.toNat) && decide (c.toNat ≤ 57)
/-- A 0 ahead of others. -/
def Ad.zeroAhead (l : List UInt8) : Bool := decide (1 < l.length) && (l.head? == some 48)
/-- Is a text digits without a 0 ahead? -/
def Ad.isNum (l : List UInt8) : Bool := !l.isEmpty && !Ad.zeroAhead l && Ad.digs l
/-- The number of some digits. -/
def Ad.num (l : List UInt8) : Int := l.foldl (fun n c => 10 * n + ((c.toNat : Int) - 48)) 0

theorem Ad.size_list (s : ByteArray) : s.data.toList.length = s.size := by simp
theorem Ad.get_list (s : ByteArray) (k : Nat) (h : k < s.size) : s.data.toList[k]'(by simpa using h) = s[k] := rfl
theorem Ad.empty_iff (s : ByteArray) : s.toList.isEmpty = decide (s.size = 0) := by
  rw [ByteArray.toList_eq]
  obtain ⟨⟨l⟩⟩ := s
  cases l <;> simp [ByteArray.size]

/-- One byte is a digit. -/
def Ad.dig (c : UInt8) : Bool := decide (48 ≤ c.toNat) && decide (c.toNat ≤ 57)

theorem Ad.digs_iff (s : ByteArray) : Ad.digs s.data.toList = true ↔ ∀ k (h : k < s.size), Ad.dig s[k] = true := by
  unfold Ad.digs
  rw [List.all_eq_true]
  constructor
  · intro h k hk
    exact h s[k] (by rw [← Ad.get_list s k hk]; exact List.getElem_mem _)
  · intro h x hx
    obtain ⟨k, hk, rfl⟩ := List.getElem_of_mem hx
    exact h k (by simpa using hk)

theorem Ad.head_iff (s : ByteArray) (h : 0 < s.size) : s.data.toList.head? = some s[0] := by
  rw [← Ad.get_list s 0 h, List.head?_eq_getElem?]
  simp

set_option maxHeartbeats 1000000 in
theorem isNumber_loop (s : ByteArray) (w : World) (hs : s.size ≤ maxLen) (h0 : 0 < s.size) (hz : Ad.zeroAhead s.data.toList = false) :
    Calls Tryz.prog 334 #[.string s] w fun e w' => e = .returned (.bool (Ad.digs s.data.toList)) ∧ w' = w := by
  unfold maxLen at hs
  have he : s.toList.isEmpty = false := by rw [Ad.empty_iff]; exact decide_eq_false (by omega)
  have hc : (s[0].toNat : Int) = 48 → ¬ (1 : Int) < (s.size : Int) := by
    intro h48 h1
    unfold Ad.zeroAhead at hz
    rw [Ad.head_iff s h0] at hz
    have h2 : s[0] = 48 := UInt8.toNat_inj.1 (by show s[0].toNat = 48; omega)
    rw [h2] at hz
    simp at hz
    omega
  have HZ := hide hc
  clear hc hz
  by_cases h48 : (s[0].toNat : Int) = 48
  all_goals
    first | (have h1 := HZ.out h48) | skip
    go_enter Tryz.func334, Tryz.ntmps334
    go_wp2
    go_loop [18] (fun t => ∃ k : Nat, k ≤ s.size ∧ t = .int .i64 k ∧ ∀ j (h : j < s.size), j < k → Ad.dig s[j] = true) (fun t => s.size - (intOf t).toNat)
    case atStart => exact ⟨0, Nat.zero_le _, rfl, fun j _ h => absurd h (Nat.not_lt_zero _)⟩
    case round =>
      obtain ⟨k, hk, rfl, hall⟩ := hrel
      have HALL := hide hall
      clear hall
      by_cases hlt : k < s.size
      · by_cases hd1 : (s[k].toNat : Int) < 48
        · go_wp2
          go_ret
          refine ⟨ret_bool ?_, rfl⟩
          cases hh : Ad.digs s.data.toList
          · rfl
          · have := (Ad.digs_iff s).1 hh k hlt
            simp [Ad.dig] at this
            omega
        · by_cases hd2 : (57 : Int) < (s[k].toNat : Int)
          · go_wp2
            go_ret
            refine ⟨ret_bool ?_, rfl⟩
            cases hh : Ad.digs s.data.toList
            · rfl
            · have := (Ad.digs_iff s).1 hh k hlt
              simp [Ad.dig] at this
              omega
          · go_wp2
            go_round
            case rel =>
              refine ⟨k + 1, by omega, by go_num, fun j hj hjk => ?_⟩
              rcases Nat.lt_succ_iff_lt_or_eq.1 hjk with h | rfl
              · exact HALL.out j hj h
              · simp [Ad.dig]; omega
            case measure => simp [intOf]; omega
      · go_wp2
        go_ret
        refine ⟨ret_bool ?_, rfl⟩
        symm
        exact (Ad.digs_iff s).2 fun j hj => HALL.out j hj (by omega)

set_option maxHeartbeats 1000000 in
theorem isNumber_any (s : ByteArray) (w : World) (hs : s.size ≤ maxLen) :
    Calls Tryz.prog 334 #[.string s] w fun e w' => e = .returned (.bool (Ad.isNum s.data.toList)) ∧ w' = w := by
  by_cases h0 : s.size = 0
  · have he : s.toList.isEmpty = true := by rw [Ad.empty_iff]; simp [h0]
    have hl : s.data.toList = [] := List.length_eq_zero_iff.1 (by rw [Ad.size_list]; exact h0)
    have HN : Hid (Ad.isNum s.data.toList = false) := by show _ = _; rw [hl]; rfl
    clear hl h0
    go_enter Tryz.func334, Tryz.ntmps334
    go_wp2
    go_ret
    exact ⟨ret_bool HN.out.symm, rfl⟩
  · have h0' : 0 < s.size := by omega
    have hne : s.data.toList.isEmpty = false := by
      cases hh : s.data.toList with
      | nil => have := Ad.size_list s; rw [hh] at this; simp at this; omega
      | cons a b => rfl
    cases hz : Ad.zeroAhead s.data.toList
    · have HN : Hid (Ad.isNum s.data.toList = Ad.digs s.data.toList) := by show _ = _; unfold Ad.isNum; rw [hne, hz]; rfl
      refine (isNumber_loop s w hs h0' hz).mono ?_
      rintro e w' ⟨rfl, rfl⟩
      exact ⟨ret_bool HN.out.symm, rfl⟩
    · have HN : Hid (Ad.isNum s.data.toList = false) := by show _ = _; unfold Ad.isNum; rw [hz]; simp
      unfold Ad.zeroAhead at hz
      rw [Ad.head_iff s h0'] at hz
      simp at hz
      have h1 : (1 : Int) < (s.size : Int) := by have := hz.1; omega
      have h48 : (s[0].toNat : Int) = 48 := by rw [hz.2]; rfl
      have he : s.toList.isEmpty = false := by rw [Ad.empty_iff]; exact decide_eq_false (by omega)
      clear hz hne h0
      unfold maxLen at hs
      go_enter Tryz.func334, Tryz.ntmps334
      go_wp2
      go_ret
      exact ⟨ret_bool HN.out.symm, rfl⟩
end Go.Proofs.YtpmmhmgojjlniaaGreatDoor.Ax
namespace Go.Proofs.YtpmmhmgojjlniaaGreatDoor.Ax
open Go.RowKit

theorem Ad.num_snoc (l : List UInt8) (c : UInt8) : Ad.num (l ++ [c]) = 10 * Ad.num l + ((c.toNat : Int) - 48) := by
  unfold Ad.num; rw [List.foldl_append]; rfl
theorem Ad.digs_snoc (l : List UInt8) (c : UInt8) : Ad.digs (l ++ [c]) = (Ad.digs l && Ad.dig c) := by
  unfold Ad.digs Ad.dig; simp [List.all_append]
theorem Ad.take_snoc (s : ByteArray) (k : Nat) (h : k < s.size) : s.data.toList.take (k + 1) = s.data.toList.take k ++ [s[k]] := by
  rw [List.take_succ_eq_append_getElem (by simpa using h)]; rfl
theorem Ad.dig_bd (c : UInt8) (h : Ad.dig c = true) : (48 : Int) ≤ (c.toNat : Int) ∧ (c.toNat : Int) ≤ 57 := by
  simp [Ad.dig] at h
  omega

theorem Ad.num_bd (l : List UInt8) (h : Ad.digs l = true) : 0 ≤ Ad.num l ∧ Ad.num l < 10 ^ l.length := by
  have key : ∀ (n : Nat) (l : List UInt8), l.length = n → Ad.digs l = true → 0 ≤ Ad.num l ∧ Ad.num l < 10 ^ l.length := by
    intro n
    induction n with
    | zero =>
      intro l hl _
      obtain rfl := List.length_eq_zero_iff.1 hl
      simp [Ad.num]
    | succ n ih =>
      intro l hl hd
      obtain ⟨m, c, rfl⟩ : ∃ m c, l = m ++ [c] := ⟨l.dropLast, l.getLast (by intro h; rw [h] at hl; simp at hl), (List.dropLast_concat_getLast _).symm⟩
      rw [Ad.digs_snoc, Bool.and_eq_true] at hd
      have := ih m (by simpa using hl) hd.1
      have hc := Ad.dig_bd c hd.2
      rw [Ad.num_snoc, List.length_append]
      have hp : (10 : Int) ^ (m.length + [c].length) = 10 ^ m.length * 10 := Int.pow_succ 10 m.length
      rw [hp]
      omega
  exact key l.length l rfl h

theorem Ad.digs_take (s : ByteArray) (k : Nat) (h : Ad.digs s.data.toList = true) : Ad.digs (s.data.toList.take k) = true := by
  unfold Ad.digs at *
  rw [List.all_eq_true] at *
  exact fun x hx => h x (List.mem_of_mem_take hx)

set_option maxHeartbeats 1000000 in
theorem number_long (s : ByteArray) (m : Int) (w : World) (hs : s.size ≤ maxLen) (h : 3 < s.size) :
    Calls Tryz.prog 311 #[.string s, .int .i64 m] w fun e w' => e = .returned (.tuple #[.int .i64 0, .bool false]) ∧ w' = w := by
  unfold maxLen at hs
  have h3 : (3 : Int) < (s.size : Int) := by omega
  go_enter Tryz.func311, Tryz.ntmps311
  go_wp2
  go_ret2
  exact ⟨rfl, rfl⟩

/-- What number hands back. -/
def Ad.numOf (l : List UInt8) (m : Int) : Value := if 3 < l.length ∨ m < Ad.num l then .tuple #[.int .i64 0, .bool false] else .tuple #[.int .i64 (Ad.num l), .bool true]

set_option maxHeartbeats 1000000 in
theorem number_any (s : ByteArray) (m : Int) (w : World) (hs : s.size ≤ maxLen) (hd : Ad.digs s.data.toList = true) :
    Calls Tryz.prog 311 #[.string s, .int .i64 m] w fun e w' => e = .returned (Ad.numOf s.data.toList m) ∧ w' = w := by
  by_cases h : 3 < s.size
  · refine (number_long s m w hs h).mono ?_
    rintro e w' ⟨rfl, rfl⟩
    refine ⟨?_, rfl⟩
    unfold Ad.numOf
    rw [Ad.size_list, if_pos (.inl h)]
  · have h3 : ¬ (3 : Int) < (s.size : Int) := by omega
    have hs3 : s.size ≤ 3 := by omega
    have HD := hide hd
    clear hd hs h
    go_enter Tryz.func311, Tryz.ntmps311
    go_wp2
    go_loop [6, 13] (fun n t => ∃ k : Nat, k ≤ s.size ∧ t = .int .i64 k ∧ n = .int .i64 (Ad.num (s.data.toList.take k))) (fun _ t => s.size - (intOf t).toNat)
    case atStart => exact ⟨0, Nat.zero_le _, rfl, by simp [Ad.num]⟩
    case round =>
      obtain ⟨k, hk, rfl, rfl⟩ := hrel
      have hbd := Ad.num_bd (s.data.toList.take k) (Ad.digs_take s k HD.out)
      have hlen : (s.data.toList.take k).length = k := by rw [List.length_take, Ad.size_list]; omega
      rw [hlen] at hbd
      have hp : (10 : Int) ^ k ≤ 1000 := by
        have : (10 : Nat) ^ k ≤ 10 ^ 3 := Nat.pow_le_pow_right (by decide) (by omega)
        have h2 : ((10 ^ k : Nat) : Int) ≤ 1000 := by omega
        simpa using h2
      have hn0 : 0 ≤ Ad.num (s.data.toList.take k) := hbd.1
      have hn1 : Ad.num (s.data.toList.take k) ≤ 999 := by omega
      clear hbd hlen hp
      by_cases hlt : k < s.size
      · have hb := Ad.dig_bd s[k] ((Ad.digs_iff s).1 HD.out k hlt)
        obtain ⟨hb1, hb2⟩ := hb
        have HS : Hid (Ad.num (s.data.toList.take (k + 1)) = 10 * Ad.num (s.data.toList.take k) + ((s[k].toNat : Int) - 48)) := by
          show _ = _
          rw [Ad.take_snoc s k hlt, Ad.num_snoc]
        generalize Ad.num (s.data.toList.take k) = z at *
        go_wp2
        go_round
        case rel => exact ⟨k + 1, by omega, by go_num, by rw [HS.out]⟩
        case measure => simp [intOf]; omega
      · have hk' : k = s.size := by omega
        subst hk'
        have ht : s.data.toList.take s.size = s.data.toList := List.take_of_length_le (by rw [Ad.size_list]; omega)
        rw [ht] at hn0 hn1 ⊢
        have HN : Hid (Ad.numOf s.data.toList m = if m < Ad.num s.data.toList then .tuple #[.int .i64 0, .bool false] else .tuple #[.int .i64 (Ad.num s.data.toList), .bool true]) := by
          show _ = _
          unfold Ad.numOf
          rw [Ad.size_list]
          by_cases hm : m < Ad.num s.data.toList
          · rw [if_pos (.inr hm), if_pos hm]
          · rw [if_neg (by omega), if_neg hm]
        clear ht
        generalize Ad.num s.data.toList = z at *
        by_cases hm : m < z
        · go_wp2
          go_ret2
          exact ⟨by rw [HN.out, if_pos hm]; rfl, rfl⟩
        · go_wp2
          go_ret2
          exact ⟨by rw [HN.out, if_neg (by omega)]; rfl, rfl⟩
end Go.Proofs.YtpmmhmgojjlniaaGreatDoor.Ax
namespace Go.Proofs.YtpmmhmgojjlniaaGreatDoor.Ax

/-- A text cut at the first c. -/
def Ad.cutL : List UInt8 → UInt8 → Option (List UInt8 × List UInt8)
  | [], _ => none
  | x :: xs, c => if x = c then some ([], xs) else (Ad.cutL xs c).map fun p => (x :: p.1, p.2)

theorem Ad.cutL_some : ∀ (l : List UInt8) (c : UInt8) (t r : List UInt8), Ad.cutL l c = some (t, r) → l = t ++ c :: r ∧ c ∉ t
  | [], c, t, r, h => by simp [Ad.cutL] at h
  | x :: xs, c, t, r, h => by
    unfold Ad.cutL at h
    by_cases hx : x = c
    · rw [if_pos hx] at h
      simp at h
      obtain ⟨rfl, rfl⟩ := h
      exact ⟨by simp [hx], by simp⟩
    · rw [if_neg hx] at h
      cases hc : Ad.cutL xs c with
      | none => rw [hc] at h; simp at h
      | some p =>
        rw [hc] at h
        simp at h
        obtain ⟨rfl, rfl⟩ := h
        have := Ad.cutL_some xs c p.1 p.2 hc
        refine ⟨by rw [List.cons_append, ← this.1], ?_⟩
        simp
        exact ⟨fun e => hx e.symm, this.2⟩

theorem Ad.cutL_app : ∀ (t : List UInt8) (c : UInt8) (r : List UInt8), c ∉ t → Ad.cutL (t ++ c :: r) c = some (t, r)
  | [], c, r, _ => by simp [Ad.cutL]
  | x :: t, c, r, h => by
    simp at h
    rw [List.cons_append, Ad.cutL, if_neg (fun e => h.1 e.symm), Ad.cutL_app t c r h.2]
    rfl

theorem Ad.cutL_none (l : List UInt8) (c : UInt8) (h : Lib.indexByte l c < 0) : Ad.cutL l c = none := by
  cases hc : Ad.cutL l c with
  | none => rfl
  | some p =>
    exfalso
    have h1 := Ad.cutL_some l c p.1 p.2 hc
    have h2 := Lib.indexByte_ge l c
    have h3 : Lib.indexByte l c = -1 := by omega
    have := Lib.indexByte_none h3 p.1.length
    rw [h1.1] at this
    simp at this

theorem Ad.cutL_at (s : ByteArray) (c : UInt8) (o : Nat) (h : Lib.indexByte s.data.toList c = (o : Int)) (hlt : o < s.size) :
    Ad.cutL s.data.toList c = some ((s.extract 0 o).data.toList, (s.extract (o + 1) s.size).data.toList) := by
  obtain ⟨h1, h2⟩ := Lib.indexByte_some h
  have e1 : (s.extract 0 o).data.toList = s.data.toList.take o := by rw [Lib.extract_data]; simp
  have e2 : (s.extract (o + 1) s.size).data.toList = s.data.toList.drop (o + 1) := Lib.extract_to_end s (o + 1)
  have e3 : s.data.toList = s.data.toList.take o ++ c :: s.data.toList.drop (o + 1) := by
    have hl : o < s.data.toList.length := by simpa using hlt
    have h3 : s.data.toList[o]'hl = c := by
      rw [List.getElem?_eq_getElem hl] at h1
      exact Option.some.inj h1
    rw [← h3, ← List.drop_eq_getElem_cons hl, List.take_append_drop]
  rw [e1, e2]
  conv => lhs; rw [e3]
  refine Ad.cutL_app _ _ _ ?_
  intro hm
  obtain ⟨k, hk, he⟩ := List.getElem_of_mem hm
  have hk' : k < o := by rw [List.length_take] at hk; omega
  refine h2 k hk' ?_
  rw [List.getElem_take] at he
  rw [← he]
  simp

/-- The five numbers of a text; none, if it isn't of that form. -/
def Ad.marks5 (l : List UInt8) : Option (List UInt8 × List UInt8 × List UInt8 × List UInt8 × List UInt8) :=
  (Ad.cutL l 46).bind fun p0 => (Ad.cutL p0.2 46).bind fun p1 => (Ad.cutL p1.2 46).bind fun p2 => (Ad.cutL p2.2 47).bind fun p3 => some (p0.1, p1.1, p2.1, p3.1, p3.2)
end Go.Proofs.YtpmmhmgojjlniaaGreatDoor.Ax
