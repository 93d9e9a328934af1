/- The contract of the document's digits. -/
import Derived.Test.YtgebfgjeckdngaaDoorN3
namespace Go.Proofs.YtgebfgjeckdngaaDoor
open Go.RowKit

/-- A number, at most a million. -/
def Ad.clampM (n : Int) : Int := if 1000000 < n then 1000000 else n
def Ad.numM (l : List UInt8) : Int := l.foldl (fun n c => Ad.clampM (10 * n + ((c.toNat : Int) - 48))) 0
/-- What digits says of a text. -/
def Ad.dgt (l : List UInt8) : Int := if Ad.isNum l = true then Ad.clampM (Ad.num l) else -1

theorem Ad.numM_snoc (l : List UInt8) (c : UInt8) : Ad.numM (l ++ [c]) = Ad.clampM (10 * Ad.numM l + ((c.toNat : Int) - 48)) := by
  unfold Ad.numM; rw [List.foldl_append]; rfl
theorem Ad.numM_eq (l : List UInt8) (h : Ad.digs l = true) : Ad.numM l = Ad.clampM (Ad.num l) := by
  have key : ∀ (n : Nat) (l : List UInt8), l.length = n → Ad.digs l = true → Ad.numM l = Ad.clampM (Ad.num l) := by
    intro n
    induction n with
    | zero =>
      intro l hl _
      obtain rfl := List.length_eq_zero_iff.1 hl
      rfl
    | succ n ih =>
      intro l hl hd
      obtain ⟨m, c, rfl⟩ := Ad.snoc_cases l (by intro e; subst e; simp at hl)
      rw [Ad.digs_snoc, Bool.and_eq_true] at hd
      have h1 := ih m (by simpa using hl) hd.1
      have hc := Ad.dig_bd c hd.2
      have hb := (Ad.num_bd m hd.1).1
      rw [Ad.numM_snoc, Ad.num_snoc, h1]
      unfold Ad.clampM
      by_cases a : 1000000 < Ad.num m
      · rw [if_pos a, if_pos (by omega), if_pos (by omega)]
      · rw [if_neg a]
  exact key l.length l rfl h

/-- A piece of a text. -/
def Ad.sub (s : ByteArray) (p q : Nat) : List UInt8 := (s.data.toList.drop p).take (q - p)
theorem Ad.sub_len (s : ByteArray) (p q : Nat) (hq : q ≤ s.size) : (Ad.sub s p q).length = q - p := by
  unfold Ad.sub
  rw [List.length_take, List.length_drop, Ad.size_list]
  omega
theorem Ad.sub_get (s : ByteArray) (p q k : Nat) (hq : q ≤ s.size) (hk : p + k < q) : ∃ h : k < (Ad.sub s p q).length, (Ad.sub s p q)[k] = s[p + k]'(by omega) := by
  have hl := Ad.sub_len s p q hq
  refine ⟨by omega, ?_⟩
  unfold Ad.sub
  rw [List.getElem_take, List.getElem_drop]
  exact Ad.get_list s (p + k) (by omega)
theorem Ad.sub_head (s : ByteArray) (p q : Nat) (hq : q ≤ s.size) (hp : p < q) : (Ad.sub s p q).head? = some (s[p]'(by omega)) := by
  obtain ⟨h, e⟩ := Ad.sub_get s p q 0 hq (by omega)
  rw [List.head?_eq_getElem?, List.getElem?_eq_getElem h, e]
  rfl
theorem Ad.digs_at (l : List UInt8) (k : Nat) (hk : k < l.length) (h : Ad.dig l[k] = false) : Ad.digs l = false := by
  unfold Ad.digs
  rw [List.all_eq_false]
  exact ⟨l[k], List.getElem_mem hk, by unfold Ad.dig at h; simp only [h]; decide⟩

set_option maxHeartbeats 4000000 in
set_option maxRecDepth 100000 in
theorem refDigits_is (s : ByteArray) (p q : Nat) (z : Int) (hz : Ad.dgt (Ad.sub s p q) = z) (w : World) (hs : s.size ≤ 2000) (hq : q ≤ s.size) (hpq : p ≤ s.size + 1) :
    Calls Tryd.prog 37 #[.string s, .int .i64 p, .int .i64 q] w fun e w' => e = .returned (.int .i64 z) ∧ w' = w := by
  have hlen := Ad.sub_len s p q hq
  by_cases hp : p < q
  · have hp' : ¬ (q : Int) ≤ (p : Int) := by omega
    have hps : (p : Int) < (s.size : Int) := by omega
    have hpn : p < s.size := by omega
    have hhead := Ad.sub_head s p q hq hp
    by_cases hz0 : (s[p].toNat : Int) = 48 ∧ 1 < q - p
    · have HZ : Hid (z = -1) := by
        show _ = _
        rw [← hz, Ad.dgt, if_neg]
        unfold Ad.isNum Ad.zeroAhead
        have h48 : s[p] = 48 := UInt8.toNat_inj.1 (by show s[p].toNat = 48; omega)
        rw [hhead, h48, hlen, decide_eq_true hz0.2]
        simp
      obtain ⟨h48, hq1⟩ := hz0
      have hq1' : (1 : Int) < (q : Int) - (p : Int) := by omega
      clear hz hlen hhead
      go_enter Tryd.func37, Tryd.ntmps37
      go_wp2
      go_ret
      exact ⟨ret_int HZ.out.symm, rfl⟩
    · have hzA : Hid (Ad.zeroAhead (Ad.sub s p q) = false) := by
        show _ = _
        unfold Ad.zeroAhead
        rw [hhead, hlen]
        by_cases h1 : 1 < q - p
        · have h48 : s[p] ≠ 48 := fun e => hz0 ⟨by rw [e]; rfl, h1⟩
          simp [h48]
        · rw [decide_eq_false h1]; rfl
      have HNE : Hid ((Ad.sub s p q).isEmpty = false) := by
        show _ = _
        cases h : Ad.sub s p q with
        | nil => rw [h] at hlen; simp at hlen; omega
        | cons a b => rfl
      have HISN : Hid (Ad.isNum (Ad.sub s p q) = Ad.digs (Ad.sub s p q)) := by
        show _ = _
        unfold Ad.isNum
        rw [HNE.out, hzA.out]
        rfl
      have HZ := hide hz
      have HL := hide hlen
      clear hz hlen hhead hzA HNE
      have hcase : (s[p].toNat : Int) ≠ 48 ∨ ((s[p].toNat : Int) = 48 ∧ ¬ (1 : Int) < (q : Int) - (p : Int)) := by
        by_cases h : (s[p].toNat : Int) = 48
        · exact .inr ⟨h, fun h1 => hz0 ⟨h, by omega⟩⟩
        · exact .inl h
      clear hz0
      rcases hcase with h48 | ⟨h48, hq1⟩
      all_goals
        go_enter Tryd.func37, Tryd.ntmps37
        go_wp2
        go_loop [7, 8] (fun n t => ∃ (k : Nat) (y : Int), p + k ≤ q ∧ t = .int .i64 ((p + k : Nat) : Int) ∧ n = .int .i64 y ∧ 0 ≤ y ∧ y ≤ 1000000 ∧ Hid (y = Ad.numM ((Ad.sub s p q).take k)) ∧ Hid (Ad.digs ((Ad.sub s p q).take k) = true)) (fun _ t => q - (intOf t).toNat)
        case atStart => exact ⟨0, 0, by omega, rfl, rfl, by decide, by decide, hide (by simp [Ad.numM]), hide (by simp [Ad.digs])⟩
        case round =>
          obtain ⟨k, y, hk, rfl, rfl, y0, y1, HY, HD⟩ := hrel
          by_cases hkl : p + k < q
          · have hkl' : (p : Int) + (k : Int) < (q : Int) := by omega
            have hks : (p : Int) + (k : Int) < (s.size : Int) := by omega
            have hkn : p + k < s.size := by omega
            obtain ⟨hkL, hget⟩ := Ad.sub_get s p q k hq hkl
            by_cases hd1 : (s[p + k].toNat : Int) < 48
            · have HN : Hid (z = -1) := by
                show _ = _
                rw [← HZ.out, Ad.dgt, if_neg]
                rw [HISN.out, Ad.digs_at _ k hkL (by rw [hget]; unfold Ad.dig; rw [decide_eq_false (by omega)]; rfl)]
                decide
              clear hget
              go_wp2
              go_ret
              exact ⟨ret_int HN.out.symm, rfl⟩
            · by_cases hd2 : (57 : Int) < (s[p + k].toNat : Int)
              · have HN : Hid (z = -1) := by
                  show _ = _
                  rw [← HZ.out, Ad.dgt, if_neg]
                  rw [HISN.out, Ad.digs_at _ k hkL (by rw [hget]; unfold Ad.dig; rw [decide_eq_false (p := s[p + k].toNat ≤ 57) (by omega), Bool.and_false])]
                  decide
                clear hget
                go_wp2
                go_ret
                exact ⟨ret_int HN.out.symm, rfl⟩
              · have HS : Hid (Ad.numM ((Ad.sub s p q).take (k + 1)) = Ad.clampM (10 * y + ((s[p + k].toNat : Int) - 48))) := by
                  show _ = _
                  rw [List.take_succ_eq_append_getElem hkL, hget, Ad.numM_snoc, HY.out]
                have HD' : Hid (Ad.digs ((Ad.sub s p q).take (k + 1)) = true) := by
                  show _ = _
                  rw [List.take_succ_eq_append_getElem hkL, hget, Ad.digs_snoc, HD.out]
                  simp [Ad.dig]
                  omega
                clear hget
                by_cases hbig : 1000000 < 10 * y + (s[p + k].toNat : Int) - 48
                · go_wp2
                  go_round
                  case rel =>
                    refine ⟨k + 1, 1000000, by omega, by go_num, rfl, by decide, by decide, ?_, HD'⟩
                    show _ = _
                    rw [HS.out, Ad.clampM, if_pos (by omega)]
                  case measure => simp [intOf]; omega
                · go_wp2
                  go_round
                  case rel =>
                    refine ⟨k + 1, 10 * y + (s[p + k].toNat : Int) - 48, by omega, by go_num, rfl, by omega, by omega, ?_, HD'⟩
                    show _ = _
                    rw [HS.out, Ad.clampM, if_neg (by omega)]
                    omega
                  case measure => simp [intOf]; omega
          · have hkl' : ¬ (p : Int) + (k : Int) < (q : Int) := by omega
            have HN : Hid (z = y) := by
              show _ = _
              have ht : (Ad.sub s p q).take k = Ad.sub s p q := List.take_of_length_le (by rw [HL.out]; omega)
              have h1 := HY.out
              have h2 := HD.out
              rw [ht] at h1 h2
              rw [← HZ.out, Ad.dgt, if_pos (by rw [HISN.out]; exact h2), ← Ad.numM_eq _ h2, h1]
            go_wp2
            go_ret
            exact ⟨ret_int HN.out.symm, rfl⟩
  · have hp' : (q : Int) ≤ (p : Int) := by omega
    have HZ : Hid (z = -1) := by
      show _ = _
      have : Ad.sub s p q = [] := List.length_eq_zero_iff.1 (by omega)
      rw [← hz, this]
      rfl
    clear hz hlen
    go_enter Tryd.func37, Tryd.ntmps37
    go_wp2
    go_ret
    exact ⟨ret_int HZ.out.symm, rfl⟩
end Go.Proofs.YtgebfgjeckdngaaDoor
