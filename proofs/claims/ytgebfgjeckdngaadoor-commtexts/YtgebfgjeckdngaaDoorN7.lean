/- The contract of the document's Parse: its walk. -/
import Derived.Test.YtgebfgjeckdngaaDoorN6
namespace Go.Proofs.YtgebfgjeckdngaaDoor
open Go.RowKit

theorem refDigits_a (s : ByteArray) (j : Nat) (z : Int) (hz : Ad.dgt (Ad.sub s 0 j) = z) (w : World) (hs : s.size ≤ 2000) (hj : j < s.size) :
    Calls Tryd.prog 37 #[.string s, .int .i64 0, .int .i64 j] w fun e w' => e = .returned (.int .i64 z) ∧ w' = w := refDigits_is s 0 j z hz w hs (by omega) (by omega)
theorem refDigits_b (s : ByteArray) (j : Nat) (z : Int) (hz : Ad.dgt (Ad.sub s (j + 1) s.size) = z) (w : World) (hs : s.size ≤ 2000) (hj : j < s.size) :
    Calls Tryd.prog 37 #[.string s, .int .i64 ((j : Int) + 1), .int .i64 s.size] w fun e w' => e = .returned (.int .i64 z) ∧ w' = w := refDigits_is s (j + 1) s.size z hz w hs (by omega) (by omega)

/-- Parse's answer behind the colon, by what digits says of the two pieces. -/
theorem Co.parseR_at (s : ByteArray) (j : Nat) (a b q : Int) (hj : j < s.size) (h58 : (s[j].toNat : Int) = 58) (hall : ∀ k (h : k < s.size), k < j → (s[k].toNat : Int) ≠ 58) (h : Co.parseR s.data.toList = (a, b, q)) (m n : Int) (hm : Ad.dgt (Ad.sub s 0 j) = m) (hn : Ad.dgt (Ad.sub s (j + 1) s.size) = n) :
    (m < 0 ∧ a = 0 ∧ b = 0 ∧ q = 4) ∨ (¬ m < 0 ∧ n < 0 ∧ a = 0 ∧ b = 0 ∧ q = 4) ∨ (¬ m < 0 ∧ ¬ n < 0 ∧ Co.may (m, n) = false ∧ a = 0 ∧ b = 0 ∧ q = 7) ∨ (¬ m < 0 ∧ ¬ n < 0 ∧ Co.may (m, n) = true ∧ a = m ∧ b = n ∧ q = 0) := by
  unfold Co.parseR at h
  rw [Ad.cut_colon s j hj h58 hall] at h
  simp only at h
  generalize Ad.sub s 0 j = t at *
  generalize Ad.sub s (j + 1) s.size = r at *
  cases ht : Ad.isNum t
  · left
    rw [ht] at h
    have := Ad.dgt_not ht
    simp at h
    omega
  · right
    have t1 := Ad.dgt_yes ht
    cases hr : Ad.isNum r
    · left
      rw [ht, hr] at h
      have := Ad.dgt_not hr
      simp at h
      omega
    · right
      have r1 := Ad.dgt_yes hr
      have hc := Co.may_clamp ht hr
      rw [← t1.1, ← r1.1, hm, hn] at hc
      rw [ht, hr] at h
      simp only [Bool.and_self, if_true] at h
      cases hmy : Co.may (Ad.num t, Ad.num r)
      · left
        rw [hmy] at h
        simp at h
        refine ⟨by omega, by omega, hc.1.trans hmy, ?_⟩
        omega
      · right
        rw [hmy] at h
        have h2 := hc.2 hmy
        simp at h
        refine ⟨by omega, by omega, hc.1.trans hmy, ?_⟩
        omega

set_option maxHeartbeats 8000000 in
set_option maxRecDepth 100000 in
theorem refParse_is (s : ByteArray) (a b q : Int) (w : World) (hs : s.size ≤ 2000) (h : Co.parse s.data.toList = (a, b, q)) :
    Calls Tryd.prog 11 #[.string s] w fun e w' => e = .returned (.tuple #[.agg #[.int .i64 a, .int .i64 b], .int .i64 q]) ∧ Below w.heap.size w w' := by
  have HT := hide (Co.parse_tests s a b q h)
  clear h
  obtain ⟨e1, h1⟩ : ∃ e, (s.toList == [110, 111, 45, 101, 120, 112, 111, 114, 116]) = e := ⟨_, rfl⟩
  obtain ⟨e2, h2⟩ : ∃ e, (s.toList == [110, 111, 45, 97, 100, 118, 101, 114, 116, 105, 115, 101]) = e := ⟨_, rfl⟩
  obtain ⟨e3, h3⟩ : ∃ e, (s.toList == [108, 111, 99, 97, 108]) = e := ⟨_, rfl⟩
  rw [h1, h2, h3] at HT
  have C0 := hide (cells_new w)
  have B0 := hide (balloc (brefl w) (.cells #[.int .i64 0, .int .i64 0] 23))
  go_enter Tryd.func11, Tryd.ntmps11
  go_wp2_with fail
  generalize w.alloc (.cells #[.int .i64 0, .int .i64 0] 23) = W0 at *
  go_loopw [4] (fun v wr => (v = .int .i64 65281 ∨ (v = .int .i64 65282 ∧ e1 = false) ∨ (v = .int .i64 65283 ∧ e1 = false ∧ e2 = false) ∨ (v = .int .i64 65284 ∧ e1 = false ∧ e2 = false ∧ e3 = false)) ∧ Cells wr w.heap.size ∧ Below w.heap.size w wr) (fun v _ => 65284 - (intOf v).toNat)
  case atStart => exact ⟨.inl rfl, C0.out, B0.out⟩
  case round =>
    obtain ⟨hv, hc, hb⟩ := hrel
    have C1 := hide hc
    have B1 := hide hb
    clear hc hb C0 B0
    rcases hv with rfl | ⟨rfl, rfl⟩ | ⟨rfl, rfl, rfl⟩ | ⟨rfl, rfl, rfl, rfl⟩
    · go_wp2_with fail
      refine (refText_nE _).mono ?_
      rintro e w2 ⟨rfl, hb2⟩
      have C2 := hide (cells_below C1.out hb2)
      have B2 := hide (bthen B1.out hb2)
      clear hb2 C1 B1 h2 h3
      cases e1
      · go_wp2_with fail
        exact ⟨⟨.inr (.inl (by simp)), C2.out, B2.out⟩, by decide⟩
      · obtain ⟨rfl, rfl, rfl⟩ : a = 65535 ∧ b = 65281 ∧ q = 0 := by simpa using HT.out
        obtain ⟨⟨p0, p1, p2, p3⟩, f0, f1⟩ := C2.out
        go_wp2_with fail
        exact bodyPost_ret (v := .tuple #[.agg #[.int .i64 65535, .int .i64 65281], .int .i64 0]) (by simp [results, Tryd.results11, go_sem, p0, p1]) rfl ⟨rfl, bset2 B2.out _ _⟩
    · go_wp2_with fail
      refine (refText_nA _).mono ?_
      rintro e w2 ⟨rfl, hb2⟩
      have C2 := hide (cells_below C1.out hb2)
      have B2 := hide (bthen B1.out hb2)
      clear hb2 C1 B1 h1 h3
      cases e2
      · go_wp2_with fail
        exact ⟨⟨.inr (.inr (.inl (by simp))), C2.out, B2.out⟩, by decide⟩
      · obtain ⟨rfl, rfl, rfl⟩ : a = 65535 ∧ b = 65282 ∧ q = 0 := by simpa using HT.out
        obtain ⟨⟨p0, p1, p2, p3⟩, f0, f1⟩ := C2.out
        go_wp2_with fail
        exact bodyPost_ret (v := .tuple #[.agg #[.int .i64 65535, .int .i64 65282], .int .i64 0]) (by simp [results, Tryd.results11, go_sem, p0, p1]) rfl ⟨rfl, bset2 B2.out _ _⟩
    · go_wp2_with fail
      refine (refText_lo _).mono ?_
      rintro e w2 ⟨rfl, hb2⟩
      have C2 := hide (cells_below C1.out hb2)
      have B2 := hide (bthen B1.out hb2)
      clear hb2 C1 B1 h1 h2
      cases e3
      · go_wp2_with fail
        exact ⟨⟨.inr (.inr (.inr (by simp))), C2.out, B2.out⟩, by decide⟩
      · obtain ⟨rfl, rfl, rfl⟩ : a = 65535 ∧ b = 65283 ∧ q = 0 := by simpa using HT.out
        obtain ⟨⟨p0, p1, p2, p3⟩, f0, f1⟩ := C2.out
        go_wp2_with fail
        exact bodyPost_ret (v := .tuple #[.agg #[.int .i64 65535, .int .i64 65283], .int .i64 0]) (by simp [results, Tryd.results11, go_sem, p0, p1]) rfl ⟨rfl, bset2 B2.out _ _⟩
    · have HP : Hid (Co.parseR s.data.toList = (a, b, q)) := by
        show _ = _
        simpa using HT.out
      clear HT h1 h2 h3
      go_wp2_with fail
      go_loop [5] (fun t => ∃ j : Nat, j ≤ s.size ∧ t = .int .i64 j ∧ Hid (∀ k (h : k < s.size), k < j → (s[k].toNat : Int) ≠ 58)) (fun t => s.size - (intOf t).toNat)
      case atStart => exact ⟨0, Nat.zero_le _, rfl, hide fun k _ h => absurd h (Nat.not_lt_zero _)⟩
      case round =>
        obtain ⟨j, hj, rfl, HALL⟩ := hrel
        by_cases hlt : j < s.size
        · have hlt' : (j : Int) < (s.size : Int) := by omega
          by_cases h58 : (s[j].toNat : Int) = 58
          · obtain ⟨m, hm⟩ : ∃ m, Ad.dgt (Ad.sub s 0 j) = m := ⟨_, rfl⟩
            obtain ⟨n, hn⟩ : ∃ n, Ad.dgt (Ad.sub s (j + 1) s.size) = n := ⟨_, rfl⟩
            have hcs := Co.parseR_at s j a b q hlt h58 HALL.out HP.out m n hm hn
            have CM := hide (fun W => refDigits_a s j m hm W hs hlt)
            have CN := hide (fun W => refDigits_b s j n hn W hs hlt)
            have hne : ¬ (j : Int) = (s.size : Int) := by omega
            clear hm hn HP HALL
            have C3 := hide (cells_below C1.out (balloc (brefl wr) (.cells #[.int .i64 m, .int .i64 n] 23)))
            have T3 := hide (two_new wr m n 23)
            have B3 := hide (balloc B1.out (.cells #[.int .i64 m, .int .i64 n] 23))
            rcases hcs with ⟨hm0, rfl, rfl, rfl⟩ | ⟨hm0, hn0, rfl, rfl, rfl⟩ | ⟨hm0, hn0, hmy, rfl, rfl, rfl⟩ | ⟨hm0, hn0, hmy, rfl, rfl, rfl⟩
            · go_wp2_with fail
              refine (CM.out _).mono ?_
              rintro e w2 ⟨rfl, rfl⟩
              go_wp2_with fail
              refine (CN.out _).mono ?_
              rintro e w2 ⟨rfl, rfl⟩
              obtain ⟨⟨p0, p1, p2, p3⟩, f0, f1⟩ := C3.out
              obtain ⟨t0, t1, t2, t3⟩ := T3.out
              go_wp2_with fail
              exact bodyPost_ret (v := .tuple #[.agg #[.int .i64 0, .int .i64 0], .int .i64 4]) (by simp [results, Tryd.results11, go_sem, p0, p1]) rfl ⟨rfl, bset2 B3.out _ _⟩
            · go_wp2_with fail
              refine (CM.out _).mono ?_
              rintro e w2 ⟨rfl, rfl⟩
              go_wp2_with fail
              refine (CN.out _).mono ?_
              rintro e w2 ⟨rfl, rfl⟩
              obtain ⟨⟨p0, p1, p2, p3⟩, f0, f1⟩ := C3.out
              obtain ⟨t0, t1, t2, t3⟩ := T3.out
              go_wp2_with fail
              exact bodyPost_ret (v := .tuple #[.agg #[.int .i64 0, .int .i64 0], .int .i64 4]) (by simp [results, Tryd.results11, go_sem, p0, p1]) rfl ⟨rfl, bset2 B3.out _ _⟩
            · have HM := hide hmy
              clear hmy
              go_wp2_with fail
              refine (CM.out _).mono ?_
              rintro e w2 ⟨rfl, rfl⟩
              go_wp2_with fail
              refine (CN.out _).mono ?_
              rintro e w2 ⟨rfl, rfl⟩
              obtain ⟨t0, t1, t2, t3⟩ := T3.out
              go_wp2_with fail
              refine (refMay_is m n false HM.out _).mono ?_
              rintro e w3 ⟨rfl, hb3⟩
              obtain ⟨⟨p0, p1, p2, p3⟩, f0, f1⟩ := cells_below C3.out hb3
              have B4 := hide (bthen B3.out hb3)
              clear hb3
              go_wp2_with fail
              exact bodyPost_ret (v := .tuple #[.agg #[.int .i64 0, .int .i64 0], .int .i64 7]) (by simp [results, Tryd.results11, go_sem, p0, p1]) rfl ⟨rfl, bset2 B4.out _ _⟩
            · have HM := hide hmy
              clear hmy
              go_wp2_with fail
              refine (CM.out _).mono ?_
              rintro e w2 ⟨rfl, rfl⟩
              go_wp2_with fail
              refine (CN.out _).mono ?_
              rintro e w2 ⟨rfl, rfl⟩
              obtain ⟨t0, t1, t2, t3⟩ := T3.out
              go_wp2_with fail
              refine (refMay_is a b true HM.out _).mono ?_
              rintro e w3 ⟨rfl, hb3⟩
              obtain ⟨⟨p0, p1, p2, p3⟩, f0, f1⟩ := cells_below C3.out hb3
              clear t0 t1 t2 t3
              obtain ⟨t0, t1, t2, t3⟩ := two_below hb3 T3.out
              have B4 := hide (bthen B3.out hb3)
              clear hb3
              go_wp2_with fail
              exact bodyPost_ret (v := .tuple #[.agg #[.int .i64 a, .int .i64 b], .int .i64 0]) (by simp [results, Tryd.results11, go_sem, p0, p1]) rfl ⟨rfl, bset2 B4.out _ _⟩
          · go_wp2_with fail
            refine ⟨⟨j + 1, hlt, by simp, hide fun k hk hkj => ?_⟩, by simp [intOf]; omega⟩
            rcases Nat.lt_or_ge k j with h | h
            · exact HALL.out k hk h
            · obtain rfl : k = j := by omega
              exact h58
        · obtain rfl : j = s.size := by omega
          obtain ⟨rfl, rfl, rfl⟩ : (0 : Int) = a ∧ (0 : Int) = b ∧ (4 : Int) = q := by
            have := HP.out
            unfold Co.parseR at this
            rw [Ad.cut_no_colon s fun k hk => HALL.out k hk hk] at this
            simpa using this
          obtain ⟨⟨p0, p1, p2, p3⟩, f0, f1⟩ := C1.out
          go_wp2_with fail
          exact bodyPost_ret (v := .tuple #[.agg #[.int .i64 0, .int .i64 0], .int .i64 4]) (by simp [results, Tryd.results11, go_sem, p0, p1]) rfl ⟨rfl, bset2 B1.out _ _⟩
end Go.Proofs.YtgebfgjeckdngaaDoor
