/- The contract of the document's own digits. -/
import Derived.Test.YtfkajefminopjaaDoorX2
namespace Go.Proofs.YtfkajefminopjaaDoor
open Go.RowKit

/-- A number, at most 1000. -/
def Ad.clamp (n : Int) : Int := if 1000 < n then 1000 else n
/-- The number of some digits, at most 1000. -/
def Ad.numC (l : List UInt8) : Int := l.foldl (fun n c => Ad.clamp (10 * n + ((c.toNat : Int) - 48))) 0
/-- How many digits stand ahead in a text, and their number. -/
def Ad.dgs (r : List UInt8) : Int × Int := if Ad.zeroAhead (r.takeWhile Ad.dig) = true then (0, 0) else ((r.takeWhile Ad.dig).length, Ad.numC (r.takeWhile Ad.dig))

theorem Ad.numC_snoc (l : List UInt8) (c : UInt8) : Ad.numC (l ++ [c]) = Ad.clamp (10 * Ad.numC l + ((c.toNat : Int) - 48)) := by
  unfold Ad.numC; rw [List.foldl_append]; rfl

theorem Ad.numC_eq (l : List UInt8) (h : Ad.digs l = true) : Ad.numC l = Ad.clamp (Ad.num l) := by
  have key : ∀ (n : Nat) (l : List UInt8), l.length = n → Ad.digs l = true → Ad.numC l = Ad.clamp (Ad.num l) := by
    intro n
    induction n with
    | zero =>
      intro l hl _
      obtain rfl := List.length_eq_zero_iff.1 hl
      rfl
    | succ n ih =>
      intro l hl hd
      obtain ⟨m, c, rfl⟩ := Ad.snoc_cases l (by intro e; subst e; simp at hl)
      rw [Ad.digs_snoc, Bool.and_eq_true] at hd
      have h1 := ih m (by simpa using hl) hd.1
      have hc := Ad.dig_bd c hd.2
      have hb := (Ad.num_bd m hd.1).1
      rw [Ad.numC_snoc, Ad.num_snoc, h1]
      unfold Ad.clamp
      by_cases a : 1000 < Ad.num m
      · rw [if_pos a, if_pos (by omega), if_pos (by omega)]
      · rw [if_neg a]
  exact key l.length l rfl h

theorem Ad.take_while : ∀ (r : List UInt8) (k : Nat), Ad.digs (r.take k) = true → (∀ h : k < r.length, Ad.dig r[k] = false) → r.takeWhile Ad.dig = r.take k
  | [], k, _, _ => by simp
  | x :: r, 0, _, h => by
    have := h (by simp)
    simp at this
    simp [List.takeWhile, this]
  | x :: r, k + 1, hd, h => by
    have h1 : Ad.dig x = true ∧ Ad.digs (r.take k) = true := by
      have e : (x :: r).take (k + 1) = x :: r.take k := rfl
      rw [e] at hd
      unfold Ad.digs at hd ⊢
      rw [List.all_cons, Bool.and_eq_true] at hd
      exact hd
    have e : (x :: r).takeWhile Ad.dig = x :: r.takeWhile Ad.dig := by simp [List.takeWhile, h1.1]
    rw [e, Ad.take_while r k h1.2 fun hk => by
      have := h (by simp; omega)
      simpa using this]
    rfl

theorem Ad.numC_bd (l : List UInt8) (h : Ad.digs l = true) : 0 ≤ Ad.numC l ∧ Ad.numC l ≤ 1000 := by
  rw [Ad.numC_eq l h]
  have := (Ad.num_bd l h).1
  unfold Ad.clamp
  split <;> omega

theorem Ad.drop_get (s : ByteArray) (p k : Nat) (h : p + k < s.size) : ∃ h' : k < (s.data.toList.drop p).length, (s.data.toList.drop p)[k] = s[p + k] := by
  refine ⟨?_, ?_⟩
  · rw [List.length_drop, Ad.size_list]; omega
  · rw [List.getElem_drop]
    exact Ad.get_list s (p + k) h

theorem Ad.dgs_of (s : ByteArray) (p k : Nat) (z : Int) (hk : p + k ≤ s.size) (hz : z = Ad.numC ((s.data.toList.drop p).take k)) (hd : Ad.digs ((s.data.toList.drop p).take k) = true)
    (hstop : ∀ h : p + k < s.size, Ad.dig s[p + k] = false) :
    Ad.dgs (s.data.toList.drop p) = if 1 < k ∧ (s.data.toList.drop p).head? = some 48 then (0, 0) else ((k : Int), z) := by
  have ht : (s.data.toList.drop p).takeWhile Ad.dig = (s.data.toList.drop p).take k := by
    refine Ad.take_while _ k hd fun h => ?_
    have hlt : p + k < s.size := by rw [List.length_drop, Ad.size_list] at h; omega
    obtain ⟨_, e⟩ := Ad.drop_get s p k hlt
    rw [e]
    exact hstop hlt
  have hl : ((s.data.toList.drop p).take k).length = k := by rw [List.length_take, List.length_drop, Ad.size_list]; omega
  unfold Ad.dgs
  rw [ht, ← hz, hl]
  unfold Ad.zeroAhead
  rw [hl]
  by_cases h1 : 1 < k
  · have hh : ((s.data.toList.drop p).take k).head? = (s.data.toList.drop p).head? := by
      rw [List.head?_take, if_neg (by omega)]
    rw [hh]
    by_cases h2 : (s.data.toList.drop p).head? = some 48
    · have b1 : ((s.data.toList.drop p).head? == some 48) = true := beq_iff_eq.2 h2
      rw [b1, decide_eq_true h1, if_pos (by decide), if_pos ⟨h1, h2⟩]
    · have b1 : ((s.data.toList.drop p).head? == some 48) = false := beq_eq_false_iff_ne.2 h2
      rw [b1, Bool.and_false, if_neg (by decide), if_neg (fun h => h2 h.2)]
  · rw [decide_eq_false h1, Bool.false_and, if_neg (by decide), if_neg (fun h => h1 h.1)]

theorem Ad.head_drop (s : ByteArray) (p : Nat) (h : p < s.size) : ((s.data.toList.drop p).head? = some 48) ↔ (s[p].toNat : Int) = 48 := by
  have e : (s.data.toList.drop p).head? = some s[p] := by
    rw [List.head?_drop, List.getElem?_eq_getElem (by simpa using h)]
    rfl
  rw [e]
  constructor
  · intro h1
    rw [Option.some.inj h1]
    rfl
  · intro h1
    congr 1
    exact UInt8.toNat_inj.1 (by show s[p].toNat = 48; omega)

set_option maxHeartbeats 4000000 in
set_option maxRecDepth 100000 in
theorem refDigits_any (s : ByteArray) (p : Nat) (w : World) (hs : s.size ≤ 4000) (hp : p ≤ s.size) :
    Calls Tryd.prog 35 #[.string s, .int .i64 p] w fun e w' => e = .returned (.tuple #[.int .i64 (Ad.dgs (s.data.toList.drop p)).1, .int .i64 (Ad.dgs (s.data.toList.drop p)).2]) ∧ w' = w := by
  go_enter Tryd.func35, Tryd.ntmps35
  go_wp2
  go_loop [6, 7] (fun t n => ∃ (k : Nat) (z : Int), p + k ≤ s.size ∧ t = .int .i64 k ∧ n = .int .i64 z ∧ 0 ≤ z ∧ z ≤ 1000 ∧ Hid (z = Ad.numC ((s.data.toList.drop p).take k)) ∧ Hid (Ad.digs ((s.data.toList.drop p).take k) = true)) (fun t _ => s.size - p - (intOf t).toNat)
  case atStart => exact ⟨0, 0, hp, rfl, rfl, by decide, by decide, hide (by simp [Ad.numC]), hide (by simp [Ad.digs])⟩
  case round =>
    obtain ⟨k, z, hk, rfl, rfl, z0, z1, HZ, HD⟩ := hrel
    have hcase : (s.size ≤ p + k) ∨ (∃ h : p + k < s.size, (s[p + k].toNat : Int) < 48) ∨ (∃ h : p + k < s.size, (57 : Int) < (s[p + k].toNat : Int)) ∨ (∃ h : p + k < s.size, (48 : Int) ≤ (s[p + k].toNat : Int) ∧ (s[p + k].toNat : Int) ≤ 57) := by
      by_cases h : p + k < s.size
      · by_cases a : (s[p + k].toNat : Int) < 48
        · exact .inr (.inl ⟨h, a⟩)
        · by_cases b : (57 : Int) < (s[p + k].toNat : Int)
          · exact .inr (.inr (.inl ⟨h, b⟩))
          · exact .inr (.inr (.inr ⟨h, by omega, by omega⟩))
      · exact .inl (by omega)
    rcases hcase with hA | ⟨hlt, hB⟩ | ⟨hlt, hC⟩ | ⟨hlt, hD1, hD2⟩
    rotate_left 3
    · have hlt' : (p : Int) + (k : Int) < (s.size : Int) := by omega
      have HS : Hid (Ad.numC ((s.data.toList.drop p).take (k + 1)) = Ad.clamp (10 * z + ((s[p + k].toNat : Int) - 48))) := by
        show _ = _
        obtain ⟨h', e⟩ := Ad.drop_get s p k hlt
        rw [List.take_succ_eq_append_getElem h', e, Ad.numC_snoc, HZ.out]
      have HD' : Hid (Ad.digs ((s.data.toList.drop p).take (k + 1)) = true) := by
        show _ = _
        obtain ⟨h', e⟩ := Ad.drop_get s p k hlt
        rw [List.take_succ_eq_append_getElem h', e, Ad.digs_snoc, HD.out]
        simp [Ad.dig]
        omega
      by_cases hbig : 1000 < 10 * z + (s[p + k].toNat : Int) - 48
      · go_wp2
        go_round
        case rel =>
          refine ⟨k + 1, 1000, by omega, by go_num, rfl, by decide, by decide, ?_, HD'⟩
          show _ = _
          rw [HS.out, Ad.clamp, if_pos (by omega)]
        case measure => simp [intOf]; omega
      · go_wp2
        go_round
        case rel =>
          refine ⟨k + 1, 10 * z + (s[p + k].toNat : Int) - 48, by omega, by go_num, rfl, by omega, by omega, ?_, HD'⟩
          show _ = _
          rw [HS.out, Ad.clamp, if_neg (by omega)]
          omega
        case measure => simp [intOf]; omega
    all_goals
      have hstop : ∀ h : p + k < s.size, Ad.dig s[p + k] = false := by
        intro h
        first | (exfalso; omega) | (simp [Ad.dig]; omega)
      have HR := hide (Ad.dgs_of s p k z hk HZ.out HD.out hstop)
      clear hstop
      by_cases hk1 : (1 : Int) < (k : Int)
      · have hpl : p < s.size := by omega
        by_cases h48 : (s[p].toNat : Int) = 48
        · have HE : Hid (Ad.dgs (s.data.toList.drop p) = (0, 0)) := by
            show _ = _
            rw [HR.out, if_pos ⟨by omega, (Ad.head_drop s p hpl).2 h48⟩]
          clear HR
          go_wp2
          go_ret2
          rw [HE.out]
          exact ⟨rfl, rfl⟩
        · have HE : Hid (Ad.dgs (s.data.toList.drop p) = ((k : Int), z)) := by
            show _ = _
            rw [HR.out, if_neg (fun h => h48 ((Ad.head_drop s p hpl).1 h.2))]
          clear HR
          go_wp2
          go_ret2
          rw [HE.out]
          exact ⟨rfl, rfl⟩
      · have HE : Hid (Ad.dgs (s.data.toList.drop p) = ((k : Int), z)) := by
          show _ = _
          rw [HR.out, if_neg (fun h => by omega)]
        clear HR
        go_wp2
        go_ret2
        rw [HE.out]
        exact ⟨rfl, rfl⟩
end Go.Proofs.YtfkajefminopjaaDoor
