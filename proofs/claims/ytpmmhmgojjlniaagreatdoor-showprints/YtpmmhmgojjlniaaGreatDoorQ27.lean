/- What is read of an expression's text are bytes that may stand in a text in quotes. -/
import Derived.Test.YtpmmhmgojjlniaaGreatDoorQ01
import Derived.Test.YtpmmhmgojjlniaaGreatDoorQ03
import Derived.Test.YtpmmhmgojjlniaaGreatDoorQ04
import Derived.Test.YtpmmhmgojjlniaaGreatDoorQ21
import Derived.Test.YtpmmhmgojjlniaaGreatDoorQ24
import Derived.Test.YtpmmhmgojjlniaaGreatDoorQ26
import Derived.Deep.RegionHeldLaw
namespace Go.Proofs.YtpmmhmgojjlniaaGreatDoor.Ar
def Chr (c : UInt8) : Prop := 32 ≤ c.toNat ∧ c.toNat ≤ 126 ∧ c.toNat ≠ 34
/-- What is left behind bytes that may stand there. -/
def Eat (r k : Bs) : Prop := ∃ u, r = u ++ k ∧ ∀ c ∈ u, Chr c
theorem Eat.refl (r : Bs) : Eat r r := ⟨[], rfl, fun c h => by cases h⟩
theorem Eat.trans {r k q : Bs} (h : Eat r k) (g : Eat k q) : Eat r q := by
  obtain ⟨u, rfl, hu⟩ := h
  obtain ⟨v, rfl, hv⟩ := g
  exact ⟨u ++ v, by rw [List.append_assoc], fun c hc => (List.mem_append.1 hc).elim (hu c) (hv c)⟩
theorem eat_skip (r : Bs) : Eat r (Px.skip r) := by
  unfold Px.skip
  induction r with
  | nil => exact Eat.refl _
  | cons c t ih =>
    rw [List.dropWhile_cons]
    split
    · rename_i h
      obtain rfl : c = 32 := by simpa using h
      obtain ⟨u, e, hu⟩ := ih
      exact ⟨32 :: u, by rw [List.cons_append, ← e], fun d hd => (List.mem_cons.1 hd).elim (fun e => by rw [e]; exact ⟨by decide, by decide, by decide⟩) (hu d)⟩
    · exact Eat.refl _
theorem eat_next {r : Bs} {c : UInt8} (hc : Chr c) (h : Px.isAt r c = true) : Eat r (Px.next r) := by
  obtain ⟨t, h1, h2⟩ := Px.isAt_some h
  have := eat_skip r
  rw [h1] at this
  rw [h2]
  exact this.trans ⟨[c], rfl, fun d hd => by rw [List.mem_singleton.1 hd]; exact hc⟩
theorem chr_dig {c : UInt8} (h : Ad.dig c = true) : Chr c := by
  simp only [Ad.dig, Bool.and_eq_true, decide_eq_true_eq] at h
  exact ⟨by omega, by omega, by omega⟩
theorem mem_tw {p : UInt8 → Bool} {l : List UInt8} : ∀ c ∈ l.takeWhile p, p c = true := by
  induction l with
  | nil => intro c h; simp at h
  | cons a l ih =>
    intro c h
    rw [List.takeWhile_cons] at h
    split at h
    · rcases List.mem_cons.1 h with rfl | h
      · assumption
      · exact ih c h
    · simp at h
theorem eat_number {r : Bs} {x : Int} {k : Bs} (h : Px.number r = .ok (x, k)) : Eat r k := by
  unfold Px.number at h
  split at h
  · split at h
    · simp only [Except.ok.injEq, Prod.mk.injEq] at h
      obtain ⟨_, rfl⟩ := h
      refine (eat_skip r).trans ⟨Px.digits r, ?_, fun c hc => chr_dig (mem_tw c hc)⟩
      have : Px.digits r = (Px.skip r).take (Px.digits r).length := List.prefix_iff_eq_take.1 (List.takeWhile_prefix _)
      conv => lhs; rw [← List.take_append_drop (Px.digits r).length (Px.skip r), ← this]
    · cases h
  · cases h
theorem eat_set : ∀ (f : Nat) (acc : List Prt) (r : Bs) (rs : List Prt) (k : Bs), Px.set f acc r = .ok (rs, k) → Eat r k
  | 0, _, _, _, _, h => by cases h
  | f + 1, acc, r, rs, k, h => by
    rw [Px.set] at h
    split at h
    · rename_i hc
      simp only [Except.ok.injEq, Prod.mk.injEq] at h
      obtain ⟨_, rfl⟩ := h
      exact eat_next (by exact ⟨by decide, by decide, by decide⟩) hc.2
    · split at h
      · cases h
      · rename_i a k1 hn
        have s1 := eat_number hn
        split at h
        · rename_i hm
          split at h
          · cases h
          · rename_i b k2 hn2
            have s2 := eat_number hn2
            split at h
            · cases h
            · exact ((s1.trans (eat_next (by exact ⟨by decide, by decide, by decide⟩) hm)).trans s2).trans (eat_set f _ _ _ _ h)
        · exact s1.trans (eat_set f _ _ _ _ h)
def Eats (ch : Bs → Except Int (List (List Nd) × Bs)) : Prop := ∀ r c k, ch r = .ok (c, k) → Eat r k
theorem eat_atom {ch : Bs → Except Int (List (List Nd) × Bs)} (hc : Eats ch) {r : Bs} {n : Nd} {k : Bs} (h : Px.atom ch r = .ok (n, k)) : Eat r k := by
  unfold Px.atom at h
  split at h
  · rename_i h1
    simp only [Except.ok.injEq, Prod.mk.injEq] at h
    obtain ⟨_, rfl⟩ := h
    exact eat_next (by exact ⟨by decide, by decide, by decide⟩) h1
  · split at h
    · rename_i h1
      split at h
      · cases h
      · rename_i rs k1 hs
        simp only [Except.ok.injEq, Prod.mk.injEq] at h
        obtain ⟨_, rfl⟩ := h
        exact (eat_next (by exact ⟨by decide, by decide, by decide⟩) h1).trans (eat_set _ _ _ _ _ hs)
    · split at h
      · rename_i h1
        split at h
        · cases h
        · rename_i c k1 hs
          split at h
          · rename_i h2
            simp only [Except.ok.injEq, Prod.mk.injEq] at h
            obtain ⟨_, rfl⟩ := h
            exact ((eat_next (by exact ⟨by decide, by decide, by decide⟩) h1).trans (hc _ _ _ hs)).trans (eat_next (by exact ⟨by decide, by decide, by decide⟩) h2)
          · cases h
      · split at h
        · cases h
        · rename_i x k1 hn
          simp only [Except.ok.injEq, Prod.mk.injEq] at h
          obtain ⟨_, rfl⟩ := h
          exact eat_number hn
theorem eat_sign {k : Bs} (h : ¬ Px.sign k = 0) : Eat k (Px.next k) := by
  unfold Px.sign at h
  split at h
  · rename_i h1; exact eat_next (by exact ⟨by decide, by decide, by decide⟩) h1
  · split at h
    · rename_i h1; exact eat_next (by exact ⟨by decide, by decide, by decide⟩) h1
    · split at h
      · rename_i h1; exact eat_next (by exact ⟨by decide, by decide, by decide⟩) h1
      · exact absurd rfl h
theorem eat_item {ch : Bs → Except Int (List (List Nd) × Bs)} (hc : Eats ch) {r : Bs} {n : Nd} {k : Bs} (h : Px.item ch r = .ok (n, k)) : Eat r k := by
  unfold Px.item at h
  split at h
  · cases h
  · rename_i m k1 ha
    have s1 := eat_atom hc ha
    split at h
    · simp only [Except.ok.injEq, Prod.mk.injEq] at h
      obtain ⟨_, rfl⟩ := h
      exact s1
    · rename_i hs
      simp only [Except.ok.injEq, Prod.mk.injEq] at h
      obtain ⟨_, rfl⟩ := h
      exact s1.trans (eat_sign hs)
theorem eat_row {ch : Bs → Except Int (List (List Nd) × Bs)} (hc : Eats ch) : ∀ (f : Nat) (acc : List Nd) (r : Bs) (l : List Nd) (k : Bs), Px.row ch f acc r = .ok (l, k) → Eat r k
  | 0, _, _, _, _, h => by cases h
  | f + 1, acc, r, l, k, h => by
    have hs0 := eat_skip r
    rw [Px.row] at h
    split at h
    · rename_i hs
      rw [hs] at hs0
      simp only [Except.ok.injEq, Prod.mk.injEq] at h
      obtain ⟨_, rfl⟩ := h
      exact hs0
    · rename_i c t hs
      rw [hs] at hs0
      split at h
      · split at h
        · cases h
        · rename_i n k1 hi
          exact (hs0.trans (eat_item hc hi)).trans (eat_row hc f _ _ _ _ h)
      · simp only [Except.ok.injEq, Prod.mk.injEq] at h
        obtain ⟨_, rfl⟩ := h
        exact hs0
theorem eat_rows {ch : Bs → Except Int (List (List Nd) × Bs)} (hc : Eats ch) : ∀ (f : Nat) (acc : List (List Nd)) (r : Bs) (l : List (List Nd)) (k : Bs), Px.rows ch f acc r = .ok (l, k) → Eat r k
  | 0, _, _, _, _, h => by cases h
  | f + 1, acc, r, l, k, h => by
    rw [Px.rows] at h
    split at h
    · cases h
    · rename_i row k1 hr
      have s1 := eat_row hc _ _ _ _ _ hr
      split at h
      · rename_i h1
        exact (s1.trans (eat_next (by exact ⟨by decide, by decide, by decide⟩) h1)).trans (eat_rows hc f _ _ _ _ h)
      · simp only [Except.ok.injEq, Prod.mk.injEq] at h
        obtain ⟨_, rfl⟩ := h
        exact s1
theorem eat_choice : ∀ d, Eats (Px.choice d)
  | 0 => fun _ _ _ h => by cases h
  | d + 1 => fun r c k h => eat_rows (eat_choice d) _ _ _ _ _ h
/-- An expression's text: its bytes, and how many. -/
theorem parse_chr {s : Bs} {x : Bool × Bool × List (List Nd)} (h : Px.parse s = .ok x) : s.length ≤ 64 ∧ ∀ c ∈ s, Chr c := by
  unfold Px.parse at h
  split at h
  · cases h
  · rename_i hl
    refine ⟨by omega, ?_⟩
    have e0 : Eat s (if Px.isAt s 94 = true then Px.next s else s) := by
      split
      · rename_i h1; exact eat_next (by exact ⟨by decide, by decide, by decide⟩) h1
      · exact Eat.refl _
    split at h
    · cases h
    · rename_i c k hc
      have e1 := e0.trans (eat_choice 8 _ _ _ hc)
      have e2 : Eat k (if Px.isAt k 36 = true then Px.next k else k) := by
        split
        · rename_i h1; exact eat_next (by exact ⟨by decide, by decide, by decide⟩) h1
        · exact Eat.refl _
      generalize (if Px.isAt k 36 = true then Px.next k else k) = z at h e2
      split at h
      · rename_i h3
        have e3 := (e1.trans e2).trans (eat_skip z)
        rw [h3] at e3
        obtain ⟨u, e, hu⟩ := e3
        rw [List.append_nil] at e
        rw [e]
        exact hu
      · cases h
/-- No fault is told by 0. -/
theorem err_number {r : Bs} {q : Int} (h : Px.number r = .error q) : q ≠ 0 := by
  unfold Px.number at h
  split at h
  · split at h
    · cases h
    · cases h; decide
  · cases h; decide
theorem err_set : ∀ (f : Nat) (acc : List Prt) (r : Bs) (q : Int), Px.set f acc r = .error q → q ≠ 0
  | 0, _, _, _, h => by cases h; decide
  | f + 1, acc, r, q, h => by
    rw [Px.set] at h
    split at h
    · cases h
    · split at h
      · rename_i e hn; cases h; exact err_number hn
      · split at h
        · split at h
          · rename_i e hn; cases h; exact err_number hn
          · split at h
            · cases h; decide
            · exact err_set f _ _ _ h
        · exact err_set f _ _ _ h
def Errs (ch : Bs → Except Int (List (List Nd) × Bs)) : Prop := ∀ r q, ch r = .error q → q ≠ 0
theorem err_atom {ch : Bs → Except Int (List (List Nd) × Bs)} (hc : Errs ch) {r : Bs} {q : Int} (h : Px.atom ch r = .error q) : q ≠ 0 := by
  unfold Px.atom at h
  split at h
  · cases h
  · split at h
    · split at h
      · rename_i e hs; cases h; exact err_set _ _ _ _ hs
      · cases h
    · split at h
      · split at h
        · rename_i e hs; cases h; exact hc _ _ hs
        · split at h
          · cases h
          · cases h; decide
      · split at h
        · rename_i e hs; cases h; exact err_number hs
        · cases h
theorem err_item {ch : Bs → Except Int (List (List Nd) × Bs)} (hc : Errs ch) {r : Bs} {q : Int} (h : Px.item ch r = .error q) : q ≠ 0 := by
  unfold Px.item at h
  split at h
  · rename_i e hs; cases h; exact err_atom hc hs
  · split at h <;> cases h
theorem err_row {ch : Bs → Except Int (List (List Nd) × Bs)} (hc : Errs ch) : ∀ (f : Nat) (acc : List Nd) (r : Bs) (q : Int), Px.row ch f acc r = .error q → q ≠ 0
  | 0, _, _, _, h => by cases h; decide
  | f + 1, acc, r, q, h => by
    rw [Px.row] at h
    split at h
    · cases h
    · split at h
      · split at h
        · rename_i e hs; cases h; exact err_item hc hs
        · exact err_row hc f _ _ _ h
      · cases h
theorem err_rows {ch : Bs → Except Int (List (List Nd) × Bs)} (hc : Errs ch) : ∀ (f : Nat) (acc : List (List Nd)) (r : Bs) (q : Int), Px.rows ch f acc r = .error q → q ≠ 0
  | 0, _, _, _, h => by cases h; decide
  | f + 1, acc, r, q, h => by
    rw [Px.rows] at h
    split at h
    · rename_i e hs; cases h; exact err_row hc _ _ _ _ hs
    · split at h
      · exact err_rows hc f _ _ _ h
      · cases h
theorem err_choice : ∀ d, Errs (Px.choice d)
  | 0 => fun _ _ h => by cases h; decide
  | d + 1 => fun r q h => err_rows (err_choice d) _ _ _ _ h
theorem err_parse {s : Bs} {q : Int} (h : Px.parse s = .error q) : q ≠ 0 := by
  unfold Px.parse at h
  split at h
  · cases h; decide
  · split at h
    · rename_i e hs; cases h; exact err_choice 8 _ _ hs
    · rename_i c k hs
      generalize (if Px.isAt k 36 = true then Px.next k else k) = z at h
      split at h
      · cases h
      · cases h; decide
theorem asF_chr {s : ByteArray} {n : Int} (h : (match Px.parse s.data.toList with | .error q => q | .ok _ => n) = 0) : s.data.toList.length ≤ 64 ∧ ∀ c ∈ s.data.toList, Chr c := by
  cases hp : Px.parse s.data.toList with
  | error q => rw [hp] at h; exact absurd h (err_parse hp)
  | ok x => exact parse_chr hp
end Go.Proofs.YtpmmhmgojjlniaaGreatDoor.Ar
namespace Go.Proofs.YtpmmhmgojjlniaaGreatDoor.Cm
open Go.RowKit Go.Sort
theorem refMay_is (a b : Int) (r : Bool) (h : Co.may (a, b) = r) (w : World) : Calls Tryz.prog 64 #[.agg #[.int .i64 a, .int .i64 b]] w fun e w' => e = .returned (.bool r) ∧ Below w.heap.size w w' := by
  subst h
  by_cases h0 : 0 < a
  · have h0d : decide (0 < a) = true := by simpa using h0
    by_cases h1 : a < 65536
    · have h1d : decide (a < 65536) = true := by simpa using h1
      by_cases h2 : 0 ≤ b
      · have h2d : decide (0 ≤ b) = true := by simpa using h2
        by_cases h3 : b < 65536
        · have h3d : decide (b < 65536) = true := by simpa using h3
          go_enter Tryz.func64, Tryz.ntmps64
          go_wp2_with fail
          go_ret
          exact ⟨ret_bool (by simp [Co.may]; omega), balloc (brefl w) _⟩
        · have h3d : decide (b < 65536) = false := by simpa using h3
          go_enter Tryz.func64, Tryz.ntmps64
          go_wp2_with fail
          go_ret
          exact ⟨ret_bool (by simp [Co.may]; omega), balloc (brefl w) _⟩
      · have h2d : decide (0 ≤ b) = false := by simpa using h2
        go_enter Tryz.func64, Tryz.ntmps64
        go_wp2_with fail
        go_ret
        exact ⟨ret_bool (by simp [Co.may]; omega), balloc (brefl w) _⟩
    · have h1d : decide (a < 65536) = false := by simpa using h1
      go_enter Tryz.func64, Tryz.ntmps64
      go_wp2_with fail
      go_ret
      exact ⟨ret_bool (by simp [Co.may]; omega), balloc (brefl w) _⟩
  · have h0d : decide (0 < a) = false := by simpa using h0
    go_enter Tryz.func64, Tryz.ntmps64
    go_wp2_with fail
    go_ret
    exact ⟨ret_bool (by simp [Co.may]; omega), balloc (brefl w) _⟩

end Go.Proofs.YtpmmhmgojjlniaaGreatDoor.Cm
namespace Go.Proofs.YtpmmhmgojjlniaaGreatDoor
open Go.RowKit Go.Sort
def rnm (s : ByteArray) : Int := if h : 0 < s.size then (if Kn.ltrC s[0] = false then 1 else if s.data.toList.all Kn.inNm = false then 1 else if 12 < s.size then 2 else 0) else 1
theorem ret_iE {a b : Int} (h : a = b) : Ending.returned (.int .i64 b) = .returned (.int .i64 a) := by rw [h]
theorem rnm_iff (s : ByteArray) : decide (rnm s = 0) = nmOk s := by
  unfold nmOk rnm Kn.nmF
  by_cases h : 0 < s.size
  · rw [dif_pos h, dif_pos h]
    cases Kn.ltrC s[0] <;> cases s.data.toList.all Kn.inNm <;> by_cases h2 : 12 < s.size <;> simp [h2]
  · rw [dif_neg h, dif_neg h]; rfl
/-- A byte's place among those that are asked for. -/
theorem byte_cases (c : Int) (_h0 : 0 ≤ c) : c < 45 ∨ c = 45 ∨ (45 < c ∧ c < 48) ∨ (48 ≤ c ∧ c ≤ 57) ∨ (57 < c ∧ c < 95) ∨ c = 95 ∨ (95 < c ∧ c < 97) ∨ (97 ≤ c ∧ c ≤ 122) ∨ 122 < c := by omega
theorem inNm_val (c : UInt8) : Kn.inNm c = (decide (97 ≤ (c.toNat : Int) ∧ (c.toNat : Int) ≤ 122) || decide (48 ≤ (c.toNat : Int) ∧ (c.toNat : Int) ≤ 57) || decide ((c.toNat : Int) = 45) || decide ((c.toNat : Int) = 95)) := by
  simp only [Kn.inNm, Kn.ltrC, Kn.dgtC, Bool.decide_and]
set_option maxHeartbeats 4000000 in
set_option maxRecDepth 100000 in
theorem rname_is (s : ByteArray) (hs : s.size ≤ 1000) (w : World) : Calls Tryz.prog 60 #[.string s] w fun e w' => e = .returned (.int .i64 (rnm s)) ∧ Below w.heap.size w w' := by
  obtain ⟨R, hR⟩ : ∃ R, R = rnm s := ⟨_, rfl⟩
  rw [← hR]
  by_cases h0 : s.size = 0
  · obtain rfl : s = ⟨#[]⟩ := ByteArray.ext (Array.eq_empty_of_size_eq_zero h0)
    obtain rfl : R = 1 := hR
    go_enter Tryz.func60, Tryz.ntmps60
    go_wp2_with fail
    go_ret
    exact ⟨rfl, brefl w⟩
  · have he : s.toList.isEmpty = false := by rw [Kn.emptyS_iff]; exact decide_eq_false h0
    have hp : 0 < s.size := by omega
    have hp' : (0 : Int) < (s.size : Int) := by omega
    unfold rnm at hR
    rw [dif_pos hp] at hR
    have HBAD : Hid (∀ j (h : j < s.size), Kn.inNm s[j] = false → Kn.ltrC s[0] = true → R = 1) := by
      intro j h hn hl
      rw [hR, hl, if_neg (by decide), if_pos (Kn.allB_bad s j h hn)]
    have HEND : Hid (Kn.ltrC s[0] = true → (∀ j (h : j < s.size), Kn.inNm s[j] = true) → R = if 12 < s.size then 2 else 0) := by
      intro hl h
      rw [hR, hl, if_neg (by decide), if_neg (by rw [Kn.allB_ok s h]; decide)]
    have H0 : Hid (Kn.ltrC s[0] = false → R = 1) := fun hl => by rw [hR, if_pos hl]
    clear hR
    obtain ⟨c0, hc0⟩ : ∃ c : Int, ((s[0].toNat : Nat) : Int) = c := ⟨_, rfl⟩
    by_cases ha : c0 < 97
    · have HR : Hid (R = 1) := H0.out (by rw [← hc0] at ha; simp only [Kn.ltrC]; rw [decide_eq_false (by omega)]; rfl)
      clear HBAD HEND H0
      go_enter Tryz.func60, Tryz.ntmps60
      go_upto_region 1 with fail
      try rw [hc0]
      go_wp2_with fail
      all_goals (go_ret; exact ⟨ret_iE HR.out, brefl w⟩)
    · by_cases hb : 122 < c0
      · have HR : Hid (R = 1) := H0.out (by rw [← hc0] at hb; simp only [Kn.ltrC]; rw [decide_eq_false (show ¬ ((s[0].toNat : Nat) : Int) ≤ 122 by omega), Bool.and_false])
        clear HBAD HEND H0
        go_enter Tryz.func60, Tryz.ntmps60
        go_upto_region 1 with fail
        try rw [hc0]
        go_wp2_with fail
        all_goals (go_ret; exact ⟨ret_iE HR.out, brefl w⟩)
      · have hl0 : Kn.ltrC s[0] = true := by
          rw [← hc0] at ha hb
          simp only [Kn.ltrC, Bool.and_eq_true, decide_eq_true_eq]
          omega
        have HB1 := hide (fun j h hn => HBAD.out j h hn hl0)
        have HE1 := hide (HEND.out hl0)
        clear HBAD HEND H0 hl0
        go_enter Tryz.func60, Tryz.ntmps60
        go_upto_region 1 with fail
        try rw [hc0]
        go_wp2_with fail
        clear hc0 ha hb
        go_loopw [3] (fun v wr => ∃ k : Nat, v = .int .i64 k ∧ k ≤ s.size ∧ Hid (∀ j (h : j < s.size), j < k → Kn.inNm s[j] = true) ∧ wr = w) (fun v _ => s.size - (intOf v).toNat)
        case atStart => exact ⟨0, rfl, Nat.zero_le _, hide fun j _ hj => absurd hj (Nat.not_lt_zero _), rfl⟩
        case round =>
          obtain ⟨k, rfl, hk, HALL, hw⟩ := hrel
          have HW := hide hw
          clear hw
          by_cases hkl : k < s.size
          · have hkl' : (k : Int) < (s.size : Int) := by omega
            have HB := hide (HB1.out k hkl)
            have HNX : Hid (Kn.inNm s[k] = true → ∀ j (h : j < s.size), j < k + 1 → Kn.inNm s[j] = true) := by
              intro h j hj hjk
              rcases Nat.lt_or_ge j k with h1 | h1
              · exact HALL.out j hj h1
              · obtain rfl : j = k := by omega
                exact h
            have HV := hide (inNm_val s[k])
            go_upto_region 7 with fail
            obtain ⟨c, hc⟩ : ∃ c : Int, ((s[k].toNat : Nat) : Int) = c := ⟨_, rfl⟩
            have hc0 : 0 ≤ c := by omega
            try rw [hc]
            rw [hc] at HV
            clear hc
            rcases byte_cases c hc0 with h | h | h | h | h | h | h | h | h
            · have HR : Hid (R = 1) := HB.out (by rw [HV.out]; simp; omega)
              have g1 : c < 97 := by omega
              have g2 : c < 48 := by omega
              have g3 : (c != 45) = true := bne_iff_ne.2 (by omega)
              have g4 : (c != 95) = true := bne_iff_ne.2 (by omega)
              clear HB HNX HV h hc0
              go_wp2_with fail
              all_goals (go_ret; exact ⟨ret_iE HR.out, by rw [HW.out]; exact brefl w⟩)
            · have HN := hide (HNX.out (by rw [HV.out]; simp; omega))
              obtain rfl : c = 45 := h
              clear HB HNX HV
              go_wp2_with fail
              all_goals exact ⟨⟨k + 1, by go_num, by omega, HN, HW.out⟩, by simp [intOf] <;> omega⟩
            · have HR : Hid (R = 1) := HB.out (by rw [HV.out]; simp; omega)
              have g1 : c < 97 := by omega
              have g2 : c < 48 := by omega
              have g3 : (c != 45) = true := bne_iff_ne.2 (by omega)
              have g4 : (c != 95) = true := bne_iff_ne.2 (by omega)
              clear HB HNX HV h hc0
              go_wp2_with fail
              all_goals (go_ret; exact ⟨ret_iE HR.out, by rw [HW.out]; exact brefl w⟩)
            · have HN := hide (HNX.out (by rw [HV.out]; simp; omega))
              have g1 : c < 97 := by omega
              have g2 : ¬ c < 48 := by omega
              have g3 : ¬ 57 < c := by omega
              clear HB HNX HV h hc0
              go_wp2_with fail
              all_goals exact ⟨⟨k + 1, by go_num, by omega, HN, HW.out⟩, by simp [intOf] <;> omega⟩
            · have HR : Hid (R = 1) := HB.out (by rw [HV.out]; simp; omega)
              have g1 : c < 97 := by omega
              have g2 : ¬ c < 48 := by omega
              have g5 : 57 < c := by omega
              have g3 : (c != 45) = true := bne_iff_ne.2 (by omega)
              have g4 : (c != 95) = true := bne_iff_ne.2 (by omega)
              clear HB HNX HV h hc0
              go_wp2_with fail
              all_goals (go_ret; exact ⟨ret_iE HR.out, by rw [HW.out]; exact brefl w⟩)
            · have HN := hide (HNX.out (by rw [HV.out]; simp; omega))
              obtain rfl : c = 95 := h
              clear HB HNX HV
              go_wp2_with fail
              all_goals exact ⟨⟨k + 1, by go_num, by omega, HN, HW.out⟩, by simp [intOf] <;> omega⟩
            · have HR : Hid (R = 1) := HB.out (by rw [HV.out]; simp; omega)
              have g1 : c < 97 := by omega
              have g2 : ¬ c < 48 := by omega
              have g5 : 57 < c := by omega
              have g3 : (c != 45) = true := bne_iff_ne.2 (by omega)
              have g4 : (c != 95) = true := bne_iff_ne.2 (by omega)
              clear HB HNX HV h hc0
              go_wp2_with fail
              all_goals (go_ret; exact ⟨ret_iE HR.out, by rw [HW.out]; exact brefl w⟩)
            · have HN := hide (HNX.out (by rw [HV.out]; simp; omega))
              have g1 : ¬ c < 97 := by omega
              have g2 : ¬ 122 < c := by omega
              clear HB HNX HV h hc0
              go_wp2_with fail
              all_goals exact ⟨⟨k + 1, by go_num, by omega, HN, HW.out⟩, by simp [intOf] <;> omega⟩
            · have HR : Hid (R = 1) := HB.out (by rw [HV.out]; simp; omega)
              have g1 : ¬ c < 97 := by omega
              have g6 : 122 < c := by omega
              have g2 : ¬ c < 48 := by omega
              have g5 : 57 < c := by omega
              have g3 : (c != 45) = true := bne_iff_ne.2 (by omega)
              have g4 : (c != 95) = true := bne_iff_ne.2 (by omega)
              clear HB HNX HV h hc0
              go_wp2_with fail
              all_goals (go_ret; exact ⟨ret_iE HR.out, by rw [HW.out]; exact brefl w⟩)
          · have hkl' : ¬ (k : Int) < (s.size : Int) := by omega
            have HE := hide (HE1.out fun j h => HALL.out j h (by omega))
            by_cases h12 : 12 < s.size
            · have h12' : (12 : Int) < (s.size : Int) := by omega
              rw [if_pos h12] at HE
              go_wp2_with fail
              go_ret
              exact ⟨ret_iE HE.out, by rw [HW.out]; exact brefl w⟩
            · have h12' : ¬ (12 : Int) < (s.size : Int) := by omega
              rw [if_neg h12] at HE
              go_wp2_with fail
              go_ret
              exact ⟨ret_iE HE.out, by rw [HW.out]; exact brefl w⟩
end Go.Proofs.YtpmmhmgojjlniaaGreatDoor
namespace Go.Proofs.YtpmmhmgojjlniaaGreatDoor
open Go.RowKit Go.Sort
/-- Is a text a name, that isn't among some? -/
def rnm2 (s : ByteArray) (l : List ByteArray) : Bool := !(l.any fun x => decide (x = s)) && nmOk s
theorem rnm2_bad {s : ByteArray} {l : List ByteArray} {i : Nat} (hi : i < l.length) (h : l[i] = s) : rnm2 s l = false := by
  unfold rnm2
  rw [List.any_eq_true.2 ⟨l[i], List.getElem_mem hi, decide_eq_true h⟩]
  rfl
theorem rnm2_end {s : ByteArray} {l : List ByteArray} (h : ∀ j (hj : j < l.length), ¬ l[j] = s) : rnm2 s l = nmOk s := by
  unfold rnm2
  rw [List.any_eq_false.2 (fun x hx => by
    obtain ⟨j, hj, rfl⟩ := List.getElem_of_mem hx
    rw [decide_eq_true_eq]
    exact h j hj)]
  rfl
theorem texts_at {w : World} {B : Nat} {v : Value} {l : List ByteArray} (h : w.ownsRow B 9 1 v l.length (l.map Value.string)) : ∃ ao c, v = .slice ao l.length c ∧ (l = [] ∨ ∃ g, ao = some ⟨g, 0, none⟩ ∧ g < w.heap.size ∧ ∀ j (hj : j < l.length), w.cell? ⟨g, j, none⟩ = some (.string l[j])) := by
  rcases h.2 with ⟨hv, h0⟩ | ⟨g, cap, cur, hv, hB, hg, r⟩
  · exact ⟨none, 0, by rw [hv, h0], .inl (List.length_eq_zero_iff.1 h0)⟩
  · refine ⟨_, cap, hv, .inr ⟨g, rfl, heap_lt hg, fun j hj => ?_⟩⟩
    rw [hv] at h
    rw [h.cellAt _ (by omega)]
    simp [hj]
set_option maxHeartbeats 2000000 in
set_option maxRecDepth 100000 in
theorem rname2_is (B : Nat) (v : Value) (l : List ByteArray) (s : ByteArray) (hl : l.length ≤ 100000) (hs : s.size ≤ 1000) (w : World) (h : w.ownsRow B 9 1 v l.length (l.map Value.string)) : Calls Tryz.prog 25 #[.string s, v] w fun e w' => e = .returned (.bool (rnm2 s l)) ∧ Below w.heap.size w w' := by
  obtain ⟨ao, c, rfl, hat⟩ := texts_at h
  have HAT := hide hat
  have CN := hide (rname_is s hs w)
  have HRN := hide (rnm_iff s)
  have HBD := hide (fun i (hi : i < l.length) (h : l[i] = s) => rnm2_bad hi h)
  have HEN := hide (fun (h : ∀ j (hj : j < l.length), ¬ l[j] = s) => rnm2_end h)
  generalize rnm2 s l = R at *
  obtain ⟨N, hN⟩ : ∃ N, l.length = N := ⟨_, rfl⟩
  have HN := hide hN
  rw [hN] at hl ⊢
  clear hat h hN
  go_enter Tryz.func25, Tryz.ntmps25
  go_wp2_with fail
  go_loopw [5] (fun v8 wr => ∃ i : Nat, v8 = .int .i64 (i : Int) ∧ i ≤ N ∧ Hid (∀ j (hj : j < l.length), j < i → ¬ l[j] = s) ∧ w = wr) (fun v8 _ => N - (intOf v8).toNat)
  case atStart => exact ⟨0, rfl, Nat.zero_le _, fun j _ h => by omega, rfl⟩
  case round =>
    obtain ⟨i, rfl, hiN, HI, rfl⟩ := hrel
    rcases Nat.lt_or_ge i N with hlt | hge
    · have h1 : (i : Int) < (N : Int) := by omega
      have hil : i < l.length := by rw [HN.out]; exact hlt
      obtain ⟨g, rfl, hg, hc⟩ : ∃ g, ao = some ⟨g, 0, none⟩ ∧ g < w.heap.size ∧ ∀ j (hj : j < l.length), w.cell? ⟨g, j, none⟩ = some (.string l[j]) := by
        rcases HAT.out with h | h
        · rw [h] at hil; simp at hil
        · exact h
      have c0 := hc i hil
      clear hc
      by_cases hx : l[i] = s
      · have HT := hide (HBD.out i hil hx)
        have hb : (l[i].toList == s.toList) = true := by rw [beq_tl, decide_eq_true hx]
        clear HBD HEN HI
        go_wp2_with fail
        go_ret
        exact ⟨ret_bool HT.out.symm, brefl w⟩
      · have hb : (l[i].toList == s.toList) = false := by rw [beq_tl, decide_eq_false hx]
        have HI2 : Hid (∀ j (hj : j < l.length), j < i + 1 → ¬ l[j] = s) := fun j hj h => by
          rcases Nat.lt_or_ge j i with h' | h'
          · exact HI.out j hj h'
          · obtain rfl : j = i := by omega
            exact hx
        clear HI
        go_wp2_with fail
        exact ⟨⟨i + 1, by go_num, by omega, HI2, trivial⟩, by simp [intOf]; omega⟩
    · obtain rfl : i = N := by omega
      have h1 : ¬ (i : Int) < (i : Int) := by omega
      have HF := hide (HEN.out fun j hj => HI.out j hj (by rw [HN.out] at hj; exact hj))
      clear HBD HEN HI
      go_wp2_with fail
      refine CN.out.mono ?_
      rintro e w2 ⟨rfl, hb⟩
      have HB := hide hb
      have HEQ : Hid (R = decide (rnm s = 0)) := by show _ = _; rw [HF.out, HRN.out]
      generalize rnm s = n at *
      clear hb
      go_wp2_with fail
      go_ret
      exact ⟨by rw [HEQ.out]; first | rfl | simp [Bool.beq_eq_decide_eq], HB.out⟩
set_option maxHeartbeats 2000000 in
set_option maxRecDepth 100000 in
theorem rused_is (s : ByteArray) (hs : s.size ≤ 1000) (w : World) : Calls Tryz.prog 62 #[.string s] w fun e w' => e = .returned (.bool (lackOk s)) ∧ Below w.heap.size w w' := by
  have CN := hide (rname_is s hs w)
  have HEQ : Hid (lackOk s = (decide (s = ⟨#[]⟩) || decide (rnm s = 0))) := by show _ = _; unfold lackOk; rw [rnm_iff]
  generalize lackOk s = R at *
  by_cases h : s = ⟨#[]⟩
  · subst h
    have HR : Hid (R = true) := by show _ = _; rw [HEQ.out]; rfl
    clear HEQ CN
    go_enter Tryz.func62, Tryz.ntmps62
    go_wp2_with fail
    go_ret
    exact ⟨ret_bool HR.out.symm, brefl w⟩
  · have he : s.toList.isEmpty = false := by
      rw [Kn.emptyS_iff]
      refine decide_eq_false fun h0 => h ?_
      exact ByteArray.ext (Array.eq_empty_of_size_eq_zero h0)
    have hd : (s.toList == []) = false := by
      cases hl : s.toList with
      | nil => rw [hl] at he; cases he
      | cons a r => rfl
    have HR : Hid (R = decide (rnm s = 0)) := by show _ = _; rw [HEQ.out, decide_eq_false h, Bool.false_or]
    generalize rnm s = n at *
    clear HEQ h
    go_enter Tryz.func62, Tryz.ntmps62
    go_wp2_with fail
    refine CN.out.mono ?_
    rintro e w2 ⟨rfl, hb⟩
    have HB := hide hb
    clear hb CN
    go_wp2_with fail
    go_ret
    exact ⟨by rw [HR.out]; first | rfl | simp [Bool.beq_eq_decide_eq], HB.out⟩
end Go.Proofs.YtpmmhmgojjlniaaGreatDoor
