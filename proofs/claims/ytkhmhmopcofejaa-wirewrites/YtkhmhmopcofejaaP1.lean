import Derived.Test.YtkhmhmopcofejaaH1
import Derived.Test.YtkhmhmopcofejaaE1
import Derived.Test.YtkhmhmopcofejaaAS1
/- Numbers from one to another: what is asked by closures. -/
namespace Go.Proofs.Ytkhmhmopcofejaa
open Go.RowKit Go.Sort

/-- Two boxes with the least and the greatest number. -/
def UpAt (w : World) (p q : Nat) (lo hi : Int) : Prop := w.cell? ⟨p, 0, none⟩ = some (.int .i64 lo) ∧ w.cell? ⟨q, 0, none⟩ = some (.int .i64 hi)
theorem UpAt.below {w w' : World} {p q : Nat} {lo hi : Int} (h : UpAt w p q lo hi) (hb : Below w.heap.size w w') : UpAt w' p q lo hi :=
  ⟨(hb.cell (p := ⟨p, 0, none⟩) (block_lt_of_cell h.1)).trans h.1, (hb.cell (p := ⟨q, 0, none⟩) (block_lt_of_cell h.2)).trans h.2⟩
/-- The question that upTo hands back. -/
def UpGood (w : World) (lo hi : Int) (e : Ending) (w' : World) : Prop :=
  ∃ p q, e = .returned (.func (.func 102) #[] #[.pointer (some ⟨p, 0, none⟩), .pointer (some ⟨q, 0, none⟩)]) ∧ UpAt w' p q lo hi ∧ Below w.heap.size w w'
set_option maxRecDepth 100000 in
theorem upTo_is (lo hi : Int) (w : World) : Calls Try.prog 83 #[.int .i64 lo, .int .i64 hi] w (UpGood w lo hi) := by
  have HB := hide (balloc (balloc (brefl w) (.cells #[.int .i64 lo] 3)) (.cells #[.int .i64 hi] 3))
  go_enter Try.func83, Try.ntmps83
  go_wp2_with fail
  go_ret
  exact ⟨_, _, rfl, ⟨by simp, by simp⟩, HB.out⟩
theorem isUpTo_is (lo hi n : Int) (r : Bool) (hr : decide (lo ≤ n ∧ n ≤ hi) = r) (p q : Nat) (W : World) (h : UpAt W p q lo hi) :
    Calls Try.prog 102 #[.int .i64 n, .pointer (some ⟨p, 0, none⟩), .pointer (some ⟨q, 0, none⟩)] W fun e w' => e = .returned (.bool r) ∧ w' = W := by
  obtain ⟨h0, h1⟩ := h
  by_cases a : lo ≤ n
  · by_cases b : n ≤ hi
    · have HR : Hid (true = r) := by show _ = _; rw [← hr]; simp [a, b]
      clear hr
      go_enter Try.func102, Try.ntmps102
      go_wp2_with fail
      go_ret
      exact ⟨ret_bool HR.out, rfl⟩
    · have HR : Hid (false = r) := by show _ = _; rw [← hr]; simp [b]
      clear hr
      go_enter Try.func102, Try.ntmps102
      go_wp2_with fail
      go_ret
      exact ⟨ret_bool HR.out, rfl⟩
  · have HR : Hid (false = r) := by show _ = _; rw [← hr]; simp [a]
    clear hr
    go_enter Try.func102, Try.ntmps102
    go_wp2_with fail
    go_ret
    exact ⟨ret_bool HR.out, rfl⟩
theorem mayPref_is (n : Int) (r : Bool) (hr : decide (0 ≤ n ∧ n ≤ 1048576) = r) (W : World) : Calls Try.prog 78 #[.int .i64 n] W fun e w' => e = .returned (.bool r) ∧ Below W.heap.size W w' := by
  have C1 := hide (upTo_is 0 1048576 W)
  have C2 := hide (fun p q W => isUpTo_is 0 1048576 n r hr p q W)
  clear hr
  go_enter Try.func78, Try.ntmps78
  go_wp2_with fail
  refine C1.out.mono ?_
  rintro e w1 ⟨p, q, rfl, hu, hb⟩
  have HB := hide hb
  have C3 := hide (C2.out p q w1 hu)
  clear hb hu C2 C1
  go_wp2_with fail
  refine C3.out.mono ?_
  rintro e w2 ⟨rfl, rfl⟩
  go_wp2_with fail
  go_ret
  exact ⟨rfl, HB.out⟩
theorem mayMed_is (n : Int) (r : Bool) (hr : decide (0 ≤ n ∧ n ≤ 1048576) = r) (W : World) : Calls Try.prog 79 #[.int .i64 n] W fun e w' => e = .returned (.bool r) ∧ Below W.heap.size W w' := by
  have C1 := hide (upTo_is 0 1048576 W)
  have C2 := hide (fun p q W => isUpTo_is 0 1048576 n r hr p q W)
  clear hr
  go_enter Try.func79, Try.ntmps79
  go_wp2_with fail
  refine C1.out.mono ?_
  rintro e w1 ⟨p, q, rfl, hu, hb⟩
  have HB := hide hb
  have C3 := hide (C2.out p q w1 hu)
  clear hb hu C2 C1
  go_wp2_with fail
  refine C3.out.mono ?_
  rintro e w2 ⟨rfl, rfl⟩
  go_wp2_with fail
  go_ret
  exact ⟨rfl, HB.out⟩
theorem mayOrigin_is (n : Int) (r : Bool) (hr : decide (0 ≤ n ∧ n ≤ 2) = r) (W : World) : Calls Try.prog 80 #[.int .i64 n] W fun e w' => e = .returned (.bool r) ∧ Below W.heap.size W w' := by
  have C1 := hide (upTo_is 0 2 W)
  have C2 := hide (fun p q W => isUpTo_is 0 2 n r hr p q W)
  clear hr
  go_enter Try.func80, Try.ntmps80
  go_wp2_with fail
  refine C1.out.mono ?_
  rintro e w1 ⟨p, q, rfl, hu, hb⟩
  have HB := hide hb
  have C3 := hide (C2.out p q w1 hu)
  clear hb hu C2 C1
  go_wp2_with fail
  refine C3.out.mono ?_
  rintro e w2 ⟨rfl, rfl⟩
  go_wp2_with fail
  go_ret
  exact ⟨rfl, HB.out⟩
end Go.Proofs.Ytkhmhmopcofejaa

/- The program's numbers of reflectors. -/
namespace Go.Proofs.Ytkhmhmopcofejaa
open Go.RowKit Go.Sort

theorem as_range2 (n : Int) : decide (1 ≤ n ∧ n ≤ 65535) = Is.as n := by
  unfold Is.as
  rw [Bool.eq_iff_iff, Bool.and_eq_true, decide_eq_true_eq, decide_eq_true_eq, decide_eq_true_eq]
  omega
theorem reads_getD {W : World} {b off : Nat} {l : List Int} (h : Is.reads W b off l) : ∀ j, j < l.length → W.cell? ⟨b, off + j, none⟩ = some (.int .i64 (l.getD j 0)) := by
  intro j hj
  rw [h j hj, List.getD_eq_getElem?_getD, List.getElem?_eq_getElem hj]
  rfl
theorem Cl.ok_of {l : List Int} (h8 : l.length ≤ 8) (h1 : ∀ j (h : j < l.length), j < l.length → Is.as l[j] = true) (h2 : ∀ i k (hi : i < l.length) (hk : k < i), i < l.length → l[k]'(by omega) ≠ l[i]) : Cl.ok l = true :=
  (Cl.ok_iff l).2 ⟨h8, fun j h => h1 j h h, fun i k hi hk => h2 i k hi hk hi⟩
theorem take_no {l : List Int} {i : Nat} (hi : i < l.length) (h : (l.take i).contains l[i] = false) (k : Nat) (hk : k < i) : l[k]'(by omega) ≠ l[i] := by
  intro e
  have : (l.take i).contains l[i] = true := by
    rw [List.contains_iff_mem, List.mem_iff_getElem]
    exact ⟨k, by simp; omega, by simpa using e⟩
  rw [h] at this
  cases this
theorem take_yes {l : List Int} {i : Nat} (hi : i < l.length) (h : (l.take i).contains l[i] = true) : Cl.ok l = false := by
  rw [List.contains_iff_mem, List.mem_iff_getElem] at h
  obtain ⟨k, hk, e⟩ := h
  have hk' : k < i := by simp at hk; omega
  exact Cl.no_two hi hk' (by simpa using e)
set_option maxHeartbeats 4000000 in
set_option maxRecDepth 100000 in
theorem mayClusters_is (ao : Option Addr) (ca : Nat) (l : List Int) (r : Bool) (hr : Cl.ok l = r) (w : World) (hA : Is.slot w ao l) (hl : l.length ≤ 1000) (hc : l.length ≤ ca) :
    Calls Try.prog 84 #[.slice ao l.length ca] w fun e w' => e = .returned (.bool r) ∧ Below w.heap.size w w' := by
  by_cases h8 : 8 < l.length
  · have h8' : (8 : Int) < (l.length : Int) := by omega
    have HN := hide (hr.symm.trans (Cl.no_len h8))
    clear hr hl hc h8
    go_enter Try.func84, Try.ntmps84
    go_wp2_with fail
    go_ret
    exact ⟨ret_bool HN.out.symm, brefl w⟩
  · have h8' : ¬ (8 : Int) < (l.length : Int) := by omega
    have H8 := hide (Nat.le_of_not_lt h8)
    have HR := hide hr
    have HC := hide hc
    have C1 := hide (upTo_is 1 65535 w)
    clear hr hc h8
    go_enter Try.func84, Try.ntmps84
    go_wp2_with fail
    refine C1.out.mono ?_
    rintro e w1 ⟨p, q, rfl, hu, hb⟩
    have HS := hide (Is.slot_below hA hb)
    have HB := hide hb
    have C2 := hide (fun n r hr => isUpTo_is 1 65535 n r hr p q w1 hu)
    clear hu hb hA C1
    go_wp2_with fail
    go_loop [12] (fun t => ∃ i : Nat, t = .int .i64 i ∧ i ≤ l.length ∧ Hid (∀ j (h : j < l.length), j < i → Is.as l[j] = true) ∧ Hid (∀ i' k (hi : i' < l.length) (hk : k < i'), i' < i → l[k]'(by omega) ≠ l[i'])) (fun t => l.length - (intOf t).toNat)
    case atStart => exact ⟨0, rfl, Nat.zero_le _, hide fun _ _ h => absurd h (Nat.not_lt_zero _), hide fun _ _ _ _ h => absurd h (Nat.not_lt_zero _)⟩
    case round =>
      obtain ⟨i, rfl, hi, HAS, HI⟩ := hrel
      by_cases hil : i < l.length
      · have hil' : (i : Int) < (l.length : Int) := by omega
        have hic : i ≤ ca := Nat.le_trans hi HC.out
        have hic' : (i : Int) ≤ (ca : Int) := by omega
        obtain ⟨b, off, rfl, hrd⟩ := Is.slot_at HS.out hil
        have RD := hide hrd
        have e0 := hrd i hil
        clear hrd
        cases has : Is.as l[i]
        · have HN := hide (HR.out.symm.trans (Cl.no_as hil has))
          have CA := hide (C2.out l[i] false ((as_range2 _).trans has))
          clear has
          generalize l[i] = y at e0 CA
          go_wp2_with fail
          refine CA.out.mono ?_
          rintro e w2 ⟨rfl, rfl⟩
          go_wp2_with fail
          go_ret
          exact ⟨ret_bool HN.out.symm, HB.out⟩
        · have CA := hide (C2.out l[i] true ((as_range2 _).trans has))
          have CN := hide (Try.slices_Contains_int b off i ca l l[i] w1 hi (by omega) (reads_getD RD.out))
          have HAS' : Hid (∀ j (h : j < l.length), j < i + 1 → Is.as l[j] = true) := fun j h hj => by
            rcases Nat.lt_or_ge j i with h' | h'
            · exact HAS.out j h h'
            · obtain rfl : j = i := by omega
              exact has
          cases hcn : (l.take i).contains l[i]
          · have HI' : Hid (∀ i' k (hi : i' < l.length) (hk : k < i'), i' < i + 1 → l[k]'(by omega) ≠ l[i']) := fun i' k hi' hk hj => by
              rcases Nat.lt_or_ge i' i with h' | h'
              · exact HI.out i' k hi' hk h'
              · obtain rfl : i' = i := by omega
                exact take_no hil hcn k hk
            rw [hcn] at CN
            clear has hcn HAS HI C2
            generalize l[i] = y at e0 CA CN
            go_wp2_with fail
            refine CA.out.mono ?_
            rintro e w2 ⟨rfl, rfl⟩
            go_wp2_with fail
            refine CN.out.mono ?_
            rintro e w3 ⟨rfl, rfl⟩
            go_wp2_with fail
            exact ⟨⟨i + 1, by go_num, hil, HAS', HI'⟩, by simp [intOf] <;> omega⟩
          · have HN := hide (HR.out.symm.trans (take_yes hil hcn))
            rw [hcn] at CN
            clear has hcn HAS HI C2
            generalize l[i] = y at e0 CA CN
            go_wp2_with fail
            refine CA.out.mono ?_
            rintro e w2 ⟨rfl, rfl⟩
            go_wp2_with fail
            refine CN.out.mono ?_
            rintro e w3 ⟨rfl, rfl⟩
            go_wp2_with fail
            go_ret
            exact ⟨ret_bool HN.out.symm, HB.out⟩
      · have hil' : ¬ (i : Int) < (l.length : Int) := by omega
        obtain rfl : i = l.length := by omega
        have HN := hide (HR.out.symm.trans (Cl.ok_of H8.out HAS.out HI.out))
        go_wp2_with fail
        go_ret
        exact ⟨ret_bool HN.out.symm, HB.out⟩
end Go.Proofs.Ytkhmhmopcofejaa

