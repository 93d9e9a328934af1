/- The contract of comm's Parse. -/
import Derived.Test.YtgebfgjeckdngaaDoorN4
import Derived.Test.YtgebfgjeckdngaaDoorL1
namespace Go.Proofs.YtgebfgjeckdngaaDoor
open Go.RowKit

def Co.parse (l : List UInt8) : Int × Int × Int :=
  if l = Co.nE then (65535, 65281, 0) else if l = Co.nA then (65535, 65282, 0) else if l = Co.lo then (65535, 65283, 0) else
  match Ad.cutL l 58 with
  | none => (0, 0, 4)
  | some p => if (Ad.isNum p.1 && Ad.isNum p.2) = true then (if Co.may (Ad.num p.1, Ad.num p.2) = true then (Ad.num p.1, Ad.num p.2, 0) else (0, 0, 7)) else (0, 0, 4)

theorem ba_ext {s : ByteArray} {l : List UInt8} (h : s.data.toList = l) : s = ⟨l.toArray⟩ := by
  apply ByteArray.ext
  rw [← h]

/-- A result's two cells that may be written. -/
def Cells (w : World) (n : Nat) : Prop := Two w n 0 0 ∧ w.frozen? ⟨n, 0, none⟩ = false ∧ w.frozen? ⟨n, 1, none⟩ = false
theorem cells_new (w : World) : Cells (w.alloc (.cells #[.int .i64 0, .int .i64 0] 23)) w.heap.size := ⟨two_new w 0 0 23, by simp [go_sem], by simp [go_sem]⟩
theorem cells_below {w w' : World} {n : Nat} (h : Cells w n) (hb : Below w.heap.size w w') : Cells w' n :=
  ⟨two_below hb h.1, (hb.frozen (p := ⟨n, 0, none⟩) h.1.2.2.1).trans h.2.1, (hb.frozen (p := ⟨n, 1, none⟩) h.1.2.2.1).trans h.2.2⟩
theorem bset2 {w W : World} (h : Below w.heap.size w W) (v0 v1 : Value) : Below w.heap.size w ((W.setCell ⟨w.heap.size, 0, none⟩ v0).setCell ⟨w.heap.size, 1, none⟩ v1) := bset (bset h (p := ⟨w.heap.size, 0, none⟩) (Nat.le_refl _) v0) (p := ⟨w.heap.size, 1, none⟩) (Nat.le_refl _) v1

set_option maxHeartbeats 2000000 in
theorem parse_nA (w : World) : Calls Tryd.prog 10 #[.string ⟨#[110, 111, 45, 97, 100, 118, 101, 114, 116, 105, 115, 101]⟩] w fun e w' => e = .returned (.tuple #[.agg #[.int .i64 65535, .int .i64 65282], .int .i64 0]) ∧ Below w.heap.size w w' := by
  go_enter Tryd.func10, Tryd.ntmps10
  go_wp2_with fail
  have C0 := hide (cells_new w)
  have B0 := hide (balloc (brefl w) (.cells #[.int .i64 0, .int .i64 0] 23))
  refine (noAdv_is _).mono ?_
  rintro e w1 ⟨rfl, hb1⟩
  obtain ⟨⟨p0, p1, p2, p3⟩, f0, f1⟩ := cells_below C0.out hb1
  have B1 := hide (bthen B0.out hb1)
  clear hb1
  go_wp2_with fail
  exact bodyPost_ret (v := .tuple #[.agg #[.int .i64 65535, .int .i64 65282], .int .i64 0]) (by simp [results, Tryd.results10, go_sem, p0, p1]) rfl ⟨rfl, bset2 B1.out _ _⟩
set_option maxHeartbeats 2000000 in
theorem parse_lo (w : World) : Calls Tryd.prog 10 #[.string ⟨#[108, 111, 99, 97, 108]⟩] w fun e w' => e = .returned (.tuple #[.agg #[.int .i64 65535, .int .i64 65283], .int .i64 0]) ∧ Below w.heap.size w w' := by
  go_enter Tryd.func10, Tryd.ntmps10
  go_wp2_with fail
  have C0 := hide (cells_new w)
  have B0 := hide (balloc (brefl w) (.cells #[.int .i64 0, .int .i64 0] 23))
  refine (local_is _).mono ?_
  rintro e w1 ⟨rfl, hb1⟩
  obtain ⟨⟨p0, p1, p2, p3⟩, f0, f1⟩ := cells_below C0.out hb1
  have B1 := hide (bthen B0.out hb1)
  clear hb1
  go_wp2_with fail
  exact bodyPost_ret (v := .tuple #[.agg #[.int .i64 65535, .int .i64 65283], .int .i64 0]) (by simp [results, Tryd.results10, go_sem, p0, p1]) rfl ⟨rfl, bset2 B1.out _ _⟩

theorem neq_list {s : ByteArray} {l : List UInt8} (h : s.data.toList ≠ l) : (s.toList == l) = false := by
  rw [ByteArray.toList_eq]
  simpa using h
theorem dec_len : ∀ (k u : Nat), u < 10 ^ (k + 1) → (Lib.decDigits u).length ≤ k + 1
  | 0, u, h => by rw [Lib.decDigits_one (by simpa using h)]; simp
  | k + 1, u, h => by
    by_cases h10 : u < 10
    · rw [Lib.decDigits_one h10]; simp
    · have h2 : u / 10 < 10 ^ (k + 1) := by
        rw [Nat.pow_succ] at h
        exact Nat.div_lt_of_lt_mul (by rw [Nat.mul_comm]; exact h)
      have h3 := dec_len k (u / 10) h2
      have e : u = 10 * (u / 10) + u % 10 := by omega
      rw [e, dec_step _ _ (by omega) (by omega), List.length_append]
      simp
      omega
theorem isNum_digs {l : List UInt8} (h : Ad.isNum l = true) : Ad.digs l = true := by
  unfold Ad.isNum at h
  rw [Bool.and_eq_true] at h
  exact h.2
theorem num_big (t : ByteArray) (h : Ad.isNum t.data.toList = true) (h5 : 5 < t.size) : 99999 < Ad.num t.data.toList := by
  have hd := (Ad.num_bd _ (isNum_digs h)).1
  rcases Int.lt_or_le 99999 (Ad.num t.data.toList) with h1 | h1
  · exact h1
  · exfalso
    have h2 := Ad.itoa_num _ h
    obtain ⟨u, hu⟩ := Int.eq_ofNat_of_zero_le hd
    rw [hu] at h1 h2
    have h3 : Lib.itoa (u : Int) = Lib.decDigits u := Lib.itoa_nonneg u
    have h4 := dec_len 4 u (by omega)
    rw [← h3, h2, Ad.size_list] at h4
    omega
theorem Co.may_big {a b : Int} (h : 99999 < a ∨ 99999 < b) : Co.may (a, b) = false := by
  cases hm : Co.may (a, b)
  · rfl
  · have := (Co.may_iff a b).1 hm
    omega

set_option maxHeartbeats 8000000 in
set_option maxRecDepth 100000 in
theorem parse_other (s : ByteArray) (a b q : Int) (w : World) (hs : s.size ≤ 2000) (h1 : s.data.toList ≠ Co.nE) (h2 : s.data.toList ≠ Co.nA) (h3 : s.data.toList ≠ Co.lo) (h : Co.parse s.data.toList = (a, b, q)) :
    Calls Tryd.prog 10 #[.string s] w fun e w' => e = .returned (.tuple #[.agg #[.int .i64 a, .int .i64 b], .int .i64 q]) ∧ Below w.heap.size w w' := by
  have e1 : (s.toList == [110, 111, 45, 101, 120, 112, 111, 114, 116]) = false := neq_list h1
  have e2 : (s.toList == [110, 111, 45, 97, 100, 118, 101, 114, 116, 105, 115, 101]) = false := neq_list h2
  have e3 : (s.toList == [108, 111, 99, 97, 108]) = false := neq_list h3
  have HP : Hid ((match Ad.cutL s.data.toList 58 with | none => ((0, 0, 4) : Int × Int × Int) | some p => if (Ad.isNum p.1 && Ad.isNum p.2) = true then (if Co.may (Ad.num p.1, Ad.num p.2) = true then (Ad.num p.1, Ad.num p.2, 0) else (0, 0, 7)) else (0, 0, 4)) = (a, b, q)) := by
    show _ = _
    unfold Co.parse at h
    rw [if_neg h1, if_neg h2, if_neg h3] at h
    exact h
  have C0 := hide (cells_new w)
  have B0 := hide (balloc (brefl w) (.cells #[.int .i64 0, .int .i64 0] 23))
  clear h h1 h2 h3
  go_enter Tryd.func10, Tryd.ntmps10
  go_wp2_with fail
  generalize w.alloc (.cells #[.int .i64 0, .int .i64 0] 23) = W0 at *
  refine (cut_is s W0 hs).mono ?_
  rintro e w1 ⟨t, r, f, rfl, hc, ht, hr, hb1⟩
  have C1 := hide (cells_below C0.out hb1)
  have B1 := hide (bthen B0.out hb1)
  clear hb1 C0 B0 e1 e2 e3
  have HQ : Hid ((Ad.isNum t.data.toList = true → Ad.isNum r.data.toList = true → (if Co.may (Ad.num t.data.toList, Ad.num r.data.toList) = true then (Ad.num t.data.toList, Ad.num r.data.toList, 0) else (0, 0, 7)) = (a, b, q)) ∧ (Ad.isNum t.data.toList = false ∨ Ad.isNum r.data.toList = false → ((0, 0, 4) : Int × Int × Int) = (a, b, q))) := by
    have hp := HP.out
    rcases hc with ⟨hc, rfl, rfl⟩ | hc
    · rw [hc] at hp
      exact ⟨fun _ h => absurd h (by decide), fun _ => hp⟩
    · rw [hc] at hp
      simp only at hp
      refine ⟨fun h1 h2 => ?_, fun h => ?_⟩
      · rw [h1, h2] at hp
        exact hp
      · rw [if_neg] at hp
        · exact hp
        · rcases h with h | h <;> rw [h] <;> simp
  clear HP hc
  obtain ⟨P, hP⟩ : ∃ P, Ad.isNum t.data.toList = P := ⟨_, rfl⟩
  obtain ⟨Q, hQ⟩ : ∃ Q, Ad.isNum r.data.toList = Q := ⟨_, rfl⟩
  have CT := hide (fun W => isNumber_any t W (by unfold maxLen; omega))
  have CR := hide (fun W => isNumber_any r W (by unfold maxLen; omega))
  rw [hP] at CT
  rw [hQ] at CR
  cases P
  · obtain ⟨rfl, rfl, rfl⟩ : (0 : Int) = a ∧ (0 : Int) = b ∧ (4 : Int) = q := by
      have := HQ.out.2 (.inl hP)
      simpa using this
    clear hP hQ HQ
    go_wp2_with fail
    refine (CT.out _).mono ?_
    rintro e w2 ⟨rfl, rfl⟩
    obtain ⟨⟨p0, p1, p2, p3⟩, f0, f1⟩ := C1.out
    go_wp2_with fail
    exact bodyPost_ret (v := .tuple #[.agg #[.int .i64 0, .int .i64 0], .int .i64 4]) (by simp [results, Tryd.results10, go_sem, p0, p1]) rfl ⟨rfl, bset2 B1.out _ _⟩
  · cases Q
    · obtain ⟨rfl, rfl, rfl⟩ : (0 : Int) = a ∧ (0 : Int) = b ∧ (4 : Int) = q := by
        have := HQ.out.2 (.inr hQ)
        simpa using this
      clear hP hQ HQ
      go_wp2_with fail
      refine (CT.out _).mono ?_
      rintro e w2 ⟨rfl, rfl⟩
      go_wp2_with fail
      refine (CR.out _).mono ?_
      rintro e w2 ⟨rfl, rfl⟩
      obtain ⟨⟨p0, p1, p2, p3⟩, f0, f1⟩ := C1.out
      go_wp2_with fail
      exact bodyPost_ret (v := .tuple #[.agg #[.int .i64 0, .int .i64 0], .int .i64 4]) (by simp [results, Tryd.results10, go_sem, p0, p1]) rfl ⟨rfl, bset2 B1.out _ _⟩
    · have hpq := HQ.out.1 hP hQ
      have HDT := hide (isNum_digs hP)
      have HDR := hide (isNum_digs hQ)
      have HBT := hide (num_big t hP)
      have HBR := hide (num_big r hQ)
      clear hP hQ HQ
      by_cases ht5 : 5 < t.size
      · have hm := Co.may_big (b := Ad.num r.data.toList) (.inl (HBT.out ht5))
        obtain ⟨rfl, rfl, rfl⟩ : (0 : Int) = a ∧ (0 : Int) = b ∧ (7 : Int) = q := by
          rw [hm] at hpq
          simpa using hpq
        have ht5' : (5 : Int) < (t.size : Int) := by omega
        clear hpq hm
        go_wp2_with fail
        refine (CT.out _).mono ?_
        rintro e w2 ⟨rfl, rfl⟩
        go_wp2_with fail
        refine (CR.out _).mono ?_
        rintro e w2 ⟨rfl, rfl⟩
        obtain ⟨⟨p0, p1, p2, p3⟩, f0, f1⟩ := C1.out
        go_wp2_with fail
        exact bodyPost_ret (v := .tuple #[.agg #[.int .i64 0, .int .i64 0], .int .i64 7]) (by simp [results, Tryd.results10, go_sem, p0, p1]) rfl ⟨rfl, bset2 B1.out _ _⟩
      · have ht5' : ¬ (5 : Int) < (t.size : Int) := by omega
        by_cases hr5 : 5 < r.size
        · have hm := Co.may_big (a := Ad.num t.data.toList) (.inr (HBR.out hr5))
          obtain ⟨rfl, rfl, rfl⟩ : (0 : Int) = a ∧ (0 : Int) = b ∧ (7 : Int) = q := by
            rw [hm] at hpq
            simpa using hpq
          have hr5' : (5 : Int) < (r.size : Int) := by omega
          clear hpq hm
          go_wp2_with fail
          refine (CT.out _).mono ?_
          rintro e w2 ⟨rfl, rfl⟩
          go_wp2_with fail
          refine (CR.out _).mono ?_
          rintro e w2 ⟨rfl, rfl⟩
          obtain ⟨⟨p0, p1, p2, p3⟩, f0, f1⟩ := C1.out
          go_wp2_with fail
          exact bodyPost_ret (v := .tuple #[.agg #[.int .i64 0, .int .i64 0], .int .i64 7]) (by simp [results, Tryd.results10, go_sem, p0, p1]) rfl ⟨rfl, bset2 B1.out _ _⟩
        · have hr5' : ¬ (5 : Int) < (r.size : Int) := by omega
          obtain ⟨m, hm⟩ : ∃ m, Ad.num t.data.toList = m := ⟨_, rfl⟩
          obtain ⟨n, hn⟩ : ∃ n, Ad.num r.data.toList = n := ⟨_, rfl⟩
          rw [hm, hn] at hpq
          have CM := hide (fun W => number_is t m hm W (by omega) HDT.out)
          have CN := hide (fun W => number_is r n hn W (by omega) HDR.out)
          clear hm hn HBT HBR HDT HDR
          obtain ⟨u, hu⟩ : ∃ u, Co.may (m, n) = u := ⟨_, rfl⟩
          rw [hu] at hpq
          have HU := hide hu
          clear hu
          cases u
          · obtain ⟨rfl, rfl, rfl⟩ : (0 : Int) = a ∧ (0 : Int) = b ∧ (7 : Int) = q := by simpa using hpq
            clear hpq
            go_wp2_with fail
            refine (CT.out _).mono ?_
            rintro e w2 ⟨rfl, rfl⟩
            go_wp2_with fail
            refine (CR.out _).mono ?_
            rintro e w2 ⟨rfl, rfl⟩
            go_wp2_with fail
            refine (CM.out _).mono ?_
            rintro e w2 ⟨rfl, rfl⟩
            go_wp2_with fail
            refine (CN.out _).mono ?_
            rintro e w2 ⟨rfl, rfl⟩
            go_wp2_with fail
            have C2 := hide (cells_below C1.out (balloc (brefl w2) (.cells #[.int .i64 m, .int .i64 n] 23)))
            have B2 := hide (balloc B1.out (.cells #[.int .i64 m, .int .i64 n] 23))
            refine (may_is m n false HU.out _).mono ?_
            rintro e w3 ⟨rfl, hb3⟩
            obtain ⟨⟨p0, p1, p2, p3⟩, f0, f1⟩ := cells_below C2.out hb3
            have B3 := hide (bthen B2.out hb3)
            clear hb3
            go_wp2_with fail
            exact bodyPost_ret (v := .tuple #[.agg #[.int .i64 0, .int .i64 0], .int .i64 7]) (by simp [results, Tryd.results10, go_sem, p0, p1]) rfl ⟨rfl, bset2 B3.out _ _⟩
          · obtain ⟨rfl, rfl, rfl⟩ : m = a ∧ n = b ∧ (0 : Int) = q := by simpa using hpq
            clear hpq
            go_wp2_with fail
            refine (CT.out _).mono ?_
            rintro e w2 ⟨rfl, rfl⟩
            go_wp2_with fail
            refine (CR.out _).mono ?_
            rintro e w2 ⟨rfl, rfl⟩
            go_wp2_with fail
            refine (CM.out _).mono ?_
            rintro e w2 ⟨rfl, rfl⟩
            go_wp2_with fail
            refine (CN.out _).mono ?_
            rintro e w2 ⟨rfl, rfl⟩
            go_wp2_with fail
            have C2 := hide (cells_below C1.out (balloc (brefl w2) (.cells #[.int .i64 m, .int .i64 n] 23)))
            have T2 := hide (two_new w2 m n 23)
            have B2 := hide (balloc B1.out (.cells #[.int .i64 m, .int .i64 n] 23))
            refine (may_is m n true HU.out _).mono ?_
            rintro e w3 ⟨rfl, hb3⟩
            obtain ⟨⟨p0, p1, p2, p3⟩, f0, f1⟩ := cells_below C2.out hb3
            obtain ⟨t0, t1, t2, t3⟩ := two_below hb3 T2.out
            have B3 := hide (bthen B2.out hb3)
            clear hb3
            go_wp2_with fail
            exact bodyPost_ret (v := .tuple #[.agg #[.int .i64 m, .int .i64 n], .int .i64 0]) (by simp [results, Tryd.results10, go_sem, p0, p1]) rfl ⟨rfl, bset2 B3.out _ _⟩

theorem parse_is (s : ByteArray) (a b q : Int) (w : World) (hs : s.size ≤ 2000) (h : Co.parse s.data.toList = (a, b, q)) :
    Calls Tryd.prog 10 #[.string s] w fun e w' => e = .returned (.tuple #[.agg #[.int .i64 a, .int .i64 b], .int .i64 q]) ∧ Below w.heap.size w w' := by
  by_cases h1 : s.data.toList = Co.nE
  · unfold Co.parse at h
    rw [if_pos h1] at h
    obtain rfl := ba_ext h1
    obtain ⟨rfl, rfl, rfl⟩ : (65535 : Int) = a ∧ (65281 : Int) = b ∧ (0 : Int) = q := by simpa using h
    exact parse_nE w
  · by_cases h2 : s.data.toList = Co.nA
    · unfold Co.parse at h
      rw [if_neg h1, if_pos h2] at h
      obtain rfl := ba_ext h2
      obtain ⟨rfl, rfl, rfl⟩ : (65535 : Int) = a ∧ (65282 : Int) = b ∧ (0 : Int) = q := by simpa using h
      exact parse_nA w
    · by_cases h3 : s.data.toList = Co.lo
      · unfold Co.parse at h
        rw [if_neg h1, if_neg h2, if_pos h3] at h
        obtain rfl := ba_ext h3
        obtain ⟨rfl, rfl, rfl⟩ : (65535 : Int) = a ∧ (65283 : Int) = b ∧ (0 : Int) = q := by simpa using h
        exact parse_lo w
      · exact parse_other s a b q w hs h1 h2 h3 h
end Go.Proofs.YtgebfgjeckdngaaDoor
