import Derived.Test.YtbceoinhmpnjaaaGreatDoorT4
import Derived.Test.YtbceoinhmpnjaaaGreatDoorR2
import Derived.Test.YtbceoinhmpnjaaaGreatDoorP12
/- The document's Meets, over the contract of its Met. -/
namespace Go.Proofs.YtbceoinhmpnjaaaGreatDoor
open Go.RowKit Go.Sort

/-- A piece of a path that meets, at the ends that are asked for. -/
def hit (T : Nat → Nat → Bool) (f l : Bool) (n i k : Nat) : Bool := T i k && ((decide (i = 0) || !f) && (decide (k = n) || !l))
set_option maxHeartbeats 8000000 in
set_option maxRecDepth 100000 in
theorem refMeets_of (f l : Bool) (x0 x1 x2 x3 x4 x5 : Value) (ao : Option Addr) (ca : Nat) (p : List Int) (hp : p.length ≤ 16) (cs : Array Value) (T : Nat → Nat → Bool) (hT : Tab T cs) (b : Bool) (hb : b = true ↔ ∃ i k, i ≤ k ∧ k ≤ p.length ∧ hit T f l p.length i k = true) (W : World)
    (hM : ∀ w', Below W.heap.size W w' → Calls Tryz.prog 20 #[.agg #[x0, x1, x2, x3, x4, x5], .slice ao p.length ca] w' fun e w'' => e = .returned (.agg cs) ∧ Below w'.heap.size w' w'') :
    Calls Tryz.prog 19 #[.agg #[.bool f, .bool l, x0, x1, x2, x3, x4, x5], .slice ao p.length ca] W fun e w' => e = .returned (.bool b) ∧ Below W.heap.size W w' := by
  have Z := zero44
  have HZ := hide tab_zs
  generalize zs = z at Z HZ
  have B0 := hide (balloc (brefl W) (.cells #[.bool f, .bool l, x0, x1, x2, x3, x4, x5] 32))
  have CC := hide (hM _ B0.out)
  have BX := hide (box8 W (.bool f) (.bool l) x0 x1 x2 x3 x4 x5)
  have HT := hide hT
  have HB := hide hb
  clear hM hT hb
  go_enter Tryz.func19, Tryz.ntmps19
  go_wp2_with fail
  refine CC.out.mono ?_
  rintro e w2 ⟨rfl, hb2⟩
  have B2 := hide (bthen B0.out hb2)
  have BX2 := hide (box8_below BX.out hb2)
  have i1 : (Tryz.prog.info? 44).map (·.size) = some cs.size := by rw [info44, HT.out.1]
  have o1 : z.size = cs.size := by rw [HT.out.1, HZ.out.1]
  have I1 := hide i1
  have O1 := hide o1
  have A1 := hide (tab_one HT.out)
  have G0 := hide (heap_alloc_new w2 (.cells z 44))
  have G1 := hide (setRow_heap (w2.alloc (.cells z 44)) w2.heap.size z cs 44 _ (heap_alloc_new w2 (.cells z 44)))
  have B3 := hide (row_bel (w := W) (balloc B2.out (.cells z 44)) (g := w2.heap.size) B2.out.size cs)
  have hlt : W.heap.size < w2.heap.size := by have := hb2.size; rw [size_alloc] at this; omega
  have BX3 := hide (box8_of (w' := (w2.alloc (.cells z 44)).setRow w2.heap.size cs) BX2.out ((setRow_other _ _ _ _ (by omega)).trans (heap_alloc_lt _ _ _ hlt)))
  clear hb2 i1 o1
  go_wp2_with (first | (refine wpList_store_row rfl 44 (.tmp 5) (.tmp 11) rfl _ cs rfl rfl 44 z G0.out I1.out O1.out A1.out ?_))
  have HTA : Hid (TabAt ((w2.alloc (.cells z 44)).setRow w2.heap.size cs) w2.heap.size T) := ⟨cs, G1.out, HT.out⟩
  generalize (w2.alloc (.cells z 44)).setRow w2.heap.size cs = W3 at *
  generalize hg : w2.heap.size = g at *
  obtain ⟨c0, c1, _⟩ := box8_at BX3.out
  clear hg G0 G1 I1 O1 A1 BX BX2 HZ Z
  go_loopw [6, 7] (fun v6 _ wr => ∃ i : Nat, v6 = .int .i64 i ∧ i ≤ p.length + 1 ∧ Hid (∀ i' k', i' < i → i' ≤ k' → k' ≤ p.length → hit T f l p.length i' k' = false) ∧ wr = W3) (fun v6 _ _ => p.length + 1 - (intOf v6).toNat)
  case atStart => exact ⟨0, rfl, Nat.zero_le _, hide (fun i' k' h => absurd h (Nat.not_lt_zero _)), rfl⟩
  case round =>
    obtain ⟨i, rfl, hi, HS, hw⟩ := hrel
    subst hw
    by_cases hil : i ≤ p.length
    · have hil' : (i : Int) ≤ (p.length : Int) := by omega
      go_wp2_with fail
      go_loopw [7] (fun v7 wq => ∃ k : Nat, v7 = .int .i64 k ∧ i ≤ k ∧ k ≤ p.length + 1 ∧ Hid (∀ k', i ≤ k' → k' < k → hit T f l p.length i k' = false) ∧ wq = wr) (fun v7 _ => p.length + 1 - (intOf v7).toNat)
      case atStart => exact ⟨i, rfl, Nat.le_refl _, by omega, hide (fun k' h h2 => absurd h2 (by omega)), rfl⟩
      case round =>
        obtain ⟨k, rfl, hik, hk, HK, hw⟩ := hrel
        subst hw
        by_cases hkl : k ≤ p.length
        · have hkl' : (k : Int) ≤ (p.length : Int) := by omega
          have i17 : (i : Int) < 17 := by omega
          have k17 : (k : Int) < 17 := by omega
          have ct := tab_cell HTA.out (i := i) (k := k) (by omega) (by omega)
          have HN : Hid (hit T f l p.length i k = false → ∀ k', i ≤ k' → k' < k + 1 → hit T f l p.length i k' = false) := fun h k' h1 h2 => by
            rcases Nat.lt_or_ge k' k with h3 | h3
            · exact HK.out k' h1 h3
            · obtain rfl : k' = k := by omega
              exact h
          have HY : Hid (hit T f l p.length i k = true → true = b) := fun h => (HB.out.2 ⟨i, k, hik, hkl, h⟩).symm
          unfold hit at HN HY
          generalize T i k = t at ct HN HY
          have L1 : Hid ((((i : Int) == 0) = true ∧ i = 0) ∨ (((i : Int) == 0) = false ∧ i ≠ 0)) := by
            show _ ∨ _
            by_cases h : i = 0
            · exact .inl ⟨by simp [h], h⟩
            · exact .inr ⟨by simp [h], h⟩
          have L2 : Hid ((((k : Int) == (p.length : Int)) = true ∧ k = p.length) ∨ (((k : Int) == (p.length : Int)) = false ∧ k ≠ p.length)) := by
            show _ ∨ _
            by_cases h : k = p.length
            · exact .inl ⟨by simp [h], h⟩
            · exact .inr ⟨by simp; omega, h⟩
          cases t
          · have HQ := hide (HN.out (by simp ))
            clear HN HY L1 L2
            go_wp2_with fail
            exact ⟨⟨k + 1, by go_num, by omega, by omega, HQ, trivial⟩, by simp [intOf] <;> omega⟩
          · rcases L1.out with ⟨hi1, hi2⟩ | ⟨hi1, hi2⟩
            · rcases L2.out with ⟨hk1, hk2⟩ | ⟨hk1, hk2⟩
              · have HQ := hide (HY.out (by simp [hi2, hk2]))
                clear HN HY L1 L2 hi2 hk2
                go_wp2_with fail
                go_ret
                exact ⟨ret_bool HQ.out, B3.out⟩
              · cases l
                · have HQ := hide (HY.out (by simp [hi2, hk2]))
                  clear HN HY L1 L2 hi2 hk2
                  go_wp2_with fail
                  go_ret
                  exact ⟨ret_bool HQ.out, B3.out⟩
                · have HQ := hide (HN.out (by simp [hi2, hk2]))
                  clear HN HY L1 L2 hi2 hk2
                  go_wp2_with fail
                  exact ⟨⟨k + 1, by go_num, by omega, by omega, HQ, trivial⟩, by simp [intOf] <;> omega⟩
            · cases f
              · rcases L2.out with ⟨hk1, hk2⟩ | ⟨hk1, hk2⟩
                · have HQ := hide (HY.out (by simp [hi2, hk2]))
                  clear HN HY L1 L2 hi2 hk2
                  go_wp2_with fail
                  go_ret
                  exact ⟨ret_bool HQ.out, B3.out⟩
                · cases l
                  · have HQ := hide (HY.out (by simp [hi2, hk2]))
                    clear HN HY L1 L2 hi2 hk2
                    go_wp2_with fail
                    go_ret
                    exact ⟨ret_bool HQ.out, B3.out⟩
                  · have HQ := hide (HN.out (by simp [hi2, hk2]))
                    clear HN HY L1 L2 hi2 hk2
                    go_wp2_with fail
                    exact ⟨⟨k + 1, by go_num, by omega, by omega, HQ, trivial⟩, by simp [intOf] <;> omega⟩
              · have HQ := hide (HN.out (by simp [hi2]))
                clear HN HY L1 L2 hi2
                go_wp2_with fail
                exact ⟨⟨k + 1, by go_num, by omega, by omega, HQ, trivial⟩, by simp [intOf] <;> omega⟩
        · have hkl' : ¬ (k : Int) ≤ (p.length : Int) := by omega
          go_wp2_with fail
          refine ⟨⟨i + 1, by go_num, by omega, hide (fun i' k' h1 h2 h3 => ?_), trivial⟩, by simp [intOf] <;> omega⟩
          rcases Nat.lt_or_ge i' i with h4 | h4
          · exact HS.out i' k' h4 h2 h3
          · obtain rfl : i' = i := by omega
            exact HK.out k' h2 (by omega)
    · have hil' : ¬ (i : Int) ≤ (p.length : Int) := by omega
      have HX : Hid (false = b) := by
        show _ = _
        cases hb : b
        · rfl
        · obtain ⟨i', k', h1, h2, h3⟩ := HB.out.1 hb
          rw [HS.out i' k' (by omega) h1 h2] at h3
          cases h3
      go_wp2_with fail
      go_ret
      exact ⟨ret_bool HX.out, B3.out⟩
end Go.Proofs.YtbceoinhmpnjaaaGreatDoor

/- Tables told as pieces of a path: once or more. -/
namespace Go.Proofs.YtbceoinhmpnjaaaGreatDoor

/-- So many pieces behind one another. -/
def Runs (P : List Int → Prop) : Nat → List Int → Prop
  | 0, q => q = []
  | m + 1, q => ∃ a b, q = a ++ b ∧ Runs P m a ∧ P b
theorem runs_one (P : List Int → Prop) (q : List Int) : Runs P 1 q ↔ P q := by
  constructor
  · rintro ⟨a, b, rfl, rfl, hb⟩
    simpa using hb
  · intro h
    exact ⟨[], q, rfl, rfl, h⟩
theorem runs_many {P : List Int → Prop} : ∀ (m : Nat) (q : List Int), Runs P m q → Many P q
  | 0, q, h => by rw [Runs] at h; rw [h]; exact .nil
  | m + 1, q, h => by
    obtain ⟨a, b, rfl, ha, hb⟩ := h
    exact many_snoc (runs_many m a ha) hb
theorem runs_cons {P : List Int → Prop} : ∀ (m : Nat) (a q : List Int), P a → Runs P m q → Runs P (m + 1) (a ++ q)
  | 0, a, q, ha, h => by
    rw [Runs] at h
    subst h
    rw [List.append_nil]
    exact (runs_one P a).2 ha
  | m + 1, a, q, ha, h => by
    obtain ⟨x, y, rfl, hx, hy⟩ := h
    exact ⟨a ++ x, y, by rw [List.append_assoc], runs_cons m a x ha hx, hy⟩
/-- No more pieces than numbers are wanted. -/
theorem many_runs {P : List Int → Prop} : ∀ (n : Nat) (q : List Int), q.length ≤ n → Many P q → ∃ m, m ≤ q.length ∧ Runs P m q
  | 0, q, hq, _ => by
    obtain rfl : q = [] := List.length_eq_zero_iff.1 (by omega)
    exact ⟨0, Nat.le_refl _, rfl⟩
  | n + 1, q, hq, h => by
    rcases h.first with rfl | ⟨a, b, ha0, rfl, ha, hb⟩
    · exact ⟨0, Nat.le_refl _, rfl⟩
    · have hl : 0 < a.length := List.length_pos_iff.2 ha0
      rw [List.length_append] at hq
      obtain ⟨m, hm, hr⟩ := many_runs n b (by omega) hb
      exact ⟨m + 1, by rw [List.length_append]; omega, runs_cons m a b ha hr⟩
theorem plus_runs {P : List Int → Prop} (q : List Int) (n : Nat) (hq : q.length ≤ n) : Plus P q ↔ ∃ m, m ≤ n ∧ Runs P (m + 1) q := by
  constructor
  · rintro ⟨a, b, rfl, ha, hb⟩
    cases hab : a ++ b with
    | nil =>
      have h1 := List.append_eq_nil_iff.1 hab
      rw [h1.1] at ha
      exact ⟨0, Nat.zero_le _, (runs_one P []).2 ha⟩
    | cons x r =>
      obtain ⟨m, hm, hr⟩ := many_runs _ (a ++ b) (Nat.le_refl _) (.cons ha hb)
      cases m with
      | zero => rw [Runs] at hr; rw [hr] at hab; cases hab
      | succ m => exact ⟨m, by omega, by rw [← hab]; exact hr⟩
  · rintro ⟨m, _, hr⟩
    have h2 := runs_many _ _ hr
    cases m with
    | zero => exact ⟨q, [], by simp, (runs_one P q).1 hr, .nil⟩
    | succ m =>
      rcases h2.first with rfl | ⟨a, b, _, rfl, ha, hb⟩
      · obtain ⟨x, y, hxy, _, hy⟩ := hr
        have := (List.append_eq_nil_iff.1 hxy.symm).2
        rw [this] at hy
        exact ⟨[], [], rfl, hy, .nil⟩
      · exact ⟨a, b, rfl, ha, hb⟩
/-- A table that says of each piece whether it is so. -/
def Says (p : List Int) (T : Nat → Nat → Bool) (P : List Int → Prop) : Prop := ∀ i k, i ≤ k → k ≤ p.length → (T i k = true ↔ P (piece p i k))
theorem says_then {p : List Int} {A B : Nat → Nat → Bool} {P Q : List Int → Prop} (hA : Says p A P) (hB : Says p B Q) : Says p (thenT A B p.length) fun q => ∃ a b, q = a ++ b ∧ P a ∧ Q b := by
  intro i k hik hk
  rw [thenT_iff]
  constructor
  · rintro ⟨_, _, x, h1, h2, h3, h4⟩
    exact ⟨piece p i x, piece p x k, piece_app p i x k h1 h2 hk, (hA i x h1 (by omega)).1 h3, (hB x k h2 hk).1 h4⟩
  · rintro ⟨a, b, hab, ha, hb⟩
    obtain ⟨j, h1, h2, h3, h4⟩ := piece_split p i k hik hk a b hab
    exact ⟨hik, hk, j, h1, h2, (hA i j h1 (by omega)).2 (h3 ▸ ha), (hB j k h2 hk).2 (h4 ▸ hb)⟩
theorem says_or {p : List Int} {A B : Nat → Nat → Bool} {P Q : List Int → Prop} (hA : Says p A P) (hB : Says p B Q) : Says p (fun i k => A i k || B i k) fun q => P q ∨ Q q := by
  intro i k hik hk
  rw [Bool.or_eq_true, hA i k hik hk, hB i k hik hk]
theorem says_empty (p : List Int) : Says p (fun i k => i == k) fun q => q = [] := by
  intro i k hik hk
  show (i == k) = true ↔ piece p i k = []
  rw [← List.length_eq_zero_iff, piece_len p i k hk]
  simp
  omega
theorem says_iff {p : List Int} {T : Nat → Nat → Bool} {P Q : List Int → Prop} (h : Says p T P) (e : ∀ q, q.length ≤ p.length → (P q ↔ Q q)) : Says p T Q := fun i k hik hk =>
  (h i k hik hk).trans (e _ (by rw [piece_len p i k hk]; omega))
/-- The loop of + and *: so many rounds. -/
def plusT (A : Nat → Nat → Bool) (n : Nat) : Nat → Nat → Nat → Bool
  | 0 => A
  | m + 1 => fun i k => plusT A n m i k || thenT (plusT A n m) A n i k
theorem says_plusT {p : List Int} {A : Nat → Nat → Bool} {P : List Int → Prop} (hA : Says p A P) : ∀ m, Says p (plusT A p.length m) fun q => ∃ j, j ≤ m ∧ Runs P (j + 1) q
  | 0 => by
    refine says_iff hA fun q _ => ⟨fun h => ⟨0, Nat.le_refl _, (runs_one P q).2 h⟩, ?_⟩
    rintro ⟨j, hj, hr⟩
    obtain rfl : j = 0 := by omega
    exact (runs_one P q).1 hr
  | m + 1 => by
    have h1 := says_plusT hA m
    refine says_iff (says_or h1 (says_then h1 hA)) fun q _ => ?_
    constructor
    · rintro (⟨j, hj, hr⟩ | ⟨a, b, rfl, ⟨j, hj, hr⟩, hb⟩)
      · exact ⟨j, by omega, hr⟩
      · exact ⟨j + 1, by omega, a, b, rfl, hr, hb⟩
    · rintro ⟨j, hj, hr⟩
      rcases Nat.lt_or_ge j (m + 1) with h | h
      · exact .inl ⟨j, by omega, hr⟩
      · obtain rfl : j = m + 1 := by omega
        obtain ⟨a, b, rfl, ha, hb⟩ := hr
        exact .inr ⟨a, b, rfl, ⟨m, Nat.le_refl _, ha⟩, hb⟩
theorem says_plus {p : List Int} {A : Nat → Nat → Bool} {P : List Int → Prop} (hA : Says p A P) : Says p (plusT A p.length p.length) (Plus P) :=
  says_iff (says_plusT hA p.length) fun q hq => (plus_runs q p.length hq).symm
end Go.Proofs.YtbceoinhmpnjaaaGreatDoor

/- What the document's Meets looks for, told as what meets. -/
namespace Go.Proofs.YtbceoinhmpnjaaaGreatDoor

/-- The hit of the document's Meets, told as the document's words. -/
theorem hit_iff (p : List Int) (f l : Bool) (rows : List (List Nd)) (T : Nat → Nat → Bool) (h : Says p T (Nd.MetRows rows)) : (∃ i k, i ≤ k ∧ k ≤ p.length ∧ hit T f l p.length i k = true) ↔ Ex.Meets (f, l, rows) p := by
  unfold Ex.Meets hit
  constructor
  · rintro ⟨i, k, hik, hk, hh⟩
    simp only [Bool.and_eq_true, Bool.or_eq_true, decide_eq_true_eq, Bool.not_eq_true'] at hh
    obtain ⟨h1, h2, h3⟩ := hh
    refine ⟨p.take i, piece p i k, p.drop k, ?_, (h i k hik hk).1 h1, fun hf => ?_, fun hl => ?_⟩
    · have e1 := piece_app p 0 i k (Nat.zero_le _) hik hk
      have e2 : p.take k ++ p.drop k = p := List.take_append_drop k p
      simp only [piece, List.drop_zero] at e1 ⊢
      rw [← e1, e2]
    · simp only at hf
      rcases h2 with h2 | h2
      · rw [h2]; rfl
      · rw [hf] at h2; cases h2
    · simp only at hl
      rcases h3 with h3 | h3
      · rw [h3]; simp
      · rw [hl] at h3; cases h3
  · rintro ⟨a, b, c, hp, hb, h1, h2⟩
    have hl : p.length = a.length + b.length + c.length := by rw [hp, List.length_append, List.length_append]
    have hpc : piece p a.length (a.length + b.length) = b := by
      unfold piece
      rw [hp]
      simp [List.take_append]
    refine ⟨a.length, a.length + b.length, by omega, by omega, ?_⟩
    simp only [Bool.and_eq_true, Bool.or_eq_true, decide_eq_true_eq, Bool.not_eq_true']
    refine ⟨(h _ _ (by omega) (by omega)).2 (by rw [hpc]; exact hb), ?_, ?_⟩
    · cases f
      · exact .inr rfl
      · exact .inl (by rw [h1 rfl]; rfl)
    · cases l
      · exact .inr rfl
      · left
        have := h2 rfl
        rw [this] at hl
        simpa using hl.symm
end Go.Proofs.YtbceoinhmpnjaaaGreatDoor

