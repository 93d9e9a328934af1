/- The contract of the document's own Parse. -/
import Derived.Test.YtfkajefminopjaaDoorM9
namespace Go.Proofs.YtfkajefminopjaaDoor
open Go.RowKit

theorem refDigits_is (s : ByteArray) (P K x : Int) (p : Nat) (w : World) (hs : s.size ≤ 4000) (hp : p ≤ s.size) (hP : P = (p : Int)) (h : Ad.dgs (s.data.toList.drop p) = (K, x)) :
    Calls Tryd.prog 35 #[.string s, .int .i64 P] w fun e w' => e = .returned (.tuple #[.int .i64 K, .int .i64 x]) ∧ w' = w := by
  have := refDigits_any s p w hs hp
  rw [h] at this
  rw [hP]
  exact this

theorem Ad.dgs_nat (l : List UInt8) : ∃ (k : Nat) (x : Int), Ad.dgs l = ((k : Int), x) ∧ 0 ≤ x ∧ x ≤ 1000 := by
  unfold Ad.dgs
  split
  · exact ⟨0, 0, rfl, by decide, by decide⟩
  · have := Ad.numC_bd _ (Ad.tw_digs l)
    exact ⟨_, _, rfl, this.1, this.2⟩

theorem Ad.drop_at (s : ByteArray) (p k : Nat) (h : p + k < s.size) : (s.data.toList.drop p).drop k = s[p + k] :: s.data.toList.drop (p + k + 1) := by
  rw [List.drop_drop, List.drop_eq_getElem_cons (by rw [Ad.size_list]; omega)]
  rw [Ad.get_list s (p + k) h]

theorem Ad.drop_end (s : ByteArray) (p k : Nat) (h : s.size ≤ p + k) : (s.data.toList.drop p).drop k = [] := by
  rw [List.drop_drop]
  exact List.drop_of_length_le (by rw [Ad.size_list]; omega)

theorem Ad.byte_ne (c m : UInt8) (h : (c.toNat : Int) ≠ (m.toNat : Int)) : c ≠ m := fun e => h (by rw [e])
theorem Ad.byte_eq (c m : UInt8) (h : (c.toNat : Int) = (m.toNat : Int)) : c = m := UInt8.toNat_inj.1 (by omega)

set_option maxHeartbeats 8000000 in
set_option maxRecDepth 100000 in
theorem refParse_any (s : ByteArray) (a b x : Int) (w : World) (hs : s.size ≤ 4000) (HR : Hid (Ad.parse s.data.toList = (a, b, x))) :
    Calls Tryd.prog 11 #[.string s] w fun e w' => e = .returned (Ad.res a b x) ∧ Below w.heap.size w w' := by
  go_enter Tryd.func11, Tryd.ntmps11
  go_wp2_with fail
  refine wp_loop_rounds 5 ?_
  have hp0 : 0 ≤ s.size := Nat.zero_le _
  have G0 : Hid (Ad.go [46, 46, 46, 47] s.data.toList = (Ad.go [46, 46, 46, 47] (s.data.toList.drop 0)).map fun ts => ts) := by
    show _ = _
    simp
  obtain ⟨k0, x0, hd0, xl0, xh0⟩ := Ad.dgs_nat (s.data.toList.drop 0)
  have DG0 := hide hd0
  clear hd0
  rw [rounds_succ]
  go_wp2_with fail
  rcases Nat.eq_zero_or_pos k0 with rfl | hk0
  · have HF : Hid ((0, 0, 4) = (a, b, x)) := by
      show _ = _
      rw [← HR.out, Ad.parse_none _ (by rw [G0.out, Ad.go_fail _ _ (Ad.dgs_zero _ _ DG0.out)]; rfl)]
    refine (refDigits_is s _ 0 x0 0 _ hs hp0 (by first | rfl | omega) DG0.out).mono ?_
    rintro e w1 ⟨rfl, rfl⟩
    clear HR
    go_wp2_with fail
    exact bodyPost_ret (v := Ad.res 0 0 4) (by simp [results, Tryd.results11, go_sem, Ad.res]) rfl ⟨by have := HF.out; simp only [Prod.mk.injEq] at this; rw [← this.1, ← this.2.1, ← this.2.2], balloc (balloc (balloc (brefl w) _) _) _⟩
  · obtain ⟨hn0, hx0, _, hdr0, hkl0⟩ := Ad.dgs_pos _ _ _ hk0 DG0.out
    generalize ht0 : (s.data.toList.drop 0).takeWhile Ad.dig = t0 at hn0 hx0
    rw [List.length_drop, Ad.size_list] at hkl0
    have NN0 := hide hn0
    have XX0 := hide hx0
    have DR0 := hide hdr0
    have TT0 := hide ht0
    clear hn0 hx0 hdr0 ht0
    refine (refDigits_is s _ (k0 : Int) x0 0 _ hs hp0 (by first | rfl | omega) DG0.out).mono ?_
    rintro e w1 ⟨rfl, rfl⟩
    have hne0 : ((k0 : Int) == 0) = false := by simp; omega
    have hne'0 : (k0 : Int) ≠ 0 := by omega
    have hnz0 : k0 ≠ 0 := by omega
    by_cases he0 : s.size ≤ k0
    · have HF : Hid ((0, 0, 4) = (a, b, x)) := by
        show _ = _
        rw [← HR.out, Ad.parse_none _ (by rw [G0.out, Ad.go_end _ _ _ (by rw [DR0.out]; exact Ad.drop_end s 0 k0 (by omega))]; rfl)]
      have he' : (s.size : Int) ≤ (k0 : Int) := by omega
      clear HR
      go_wp2_with fail
      exact bodyPost_ret (v := Ad.res 0 0 4) (by simp [results, Tryd.results11, go_sem, Ad.res]) rfl ⟨by have := HF.out; simp only [Prod.mk.injEq] at this; rw [← this.1, ← this.2.1, ← this.2.2], balloc (balloc (balloc (brefl w) _) _) _⟩
    · have hlt0 : k0 < s.size := by omega
      have hlt'0 : (k0 : Int) < (s.size : Int) := by omega
      by_cases hc0 : (s[k0].toNat : Int) = 46
      rotate_left
      · have HF : Hid ((0, 0, 4) = (a, b, x)) := by
          show _ = _
          rw [← HR.out, Ad.parse_none _ (by rw [G0.out, Ad.go_other _ s[k0] _ _ (s.data.toList.drop (k0 + 1)) (by rw [DR0.out]; have := Ad.drop_at s 0 k0 (by omega); (first | simp only [Nat.zero_add] at this | skip); exact this) (Ad.byte_ne _ 46 hc0)]; rfl)]
        have hcb : ((s[k0].toNat : Int) != 46) = true := by simpa using hc0
        clear HR
        go_wp2_with fail
        exact bodyPost_ret (v := Ad.res 0 0 4) (by simp [results, Tryd.results11, go_sem, Ad.res]) rfl ⟨by have := HF.out; simp only [Prod.mk.injEq] at this; rw [← this.1, ← this.2.1, ← this.2.2], balloc (balloc (balloc (brefl w) _) _) _⟩
      · have G1 : Hid (Ad.go [46, 46, 46, 47] s.data.toList = (Ad.go [46, 46, 47] (s.data.toList.drop (k0 + 1))).map fun ts => t0 :: ts) := by
          show _ = _
          have hdd : (s.data.toList.drop 0).dropWhile Ad.dig = 46 :: s.data.toList.drop (k0 + 1) := by
            rw [DR0.out]
            have := Ad.drop_at s 0 k0 (by omega)
            first | simp only [Nat.zero_add] at this | skip
            rw [this, Ad.byte_eq _ 46 hc0]
          rw [G0.out, Ad.go_next _ _ _ _ hdd (by rw [TT0.out]; exact NN0.out), TT0.out, Option.map_map]
          rfl
        have hcb : ((s[k0].toNat : Int) != 46) = false := by simpa using hc0
        go_wp2_with fail
        clear hcb G0 DR0 TT0 DG0 hc0
        have hpp : (k0 : Int) + 1 = ((k0 + 1 : Nat) : Int) := by omega
        rw [hpp]
        have hp1 : k0 + 1 ≤ s.size := by omega
        clear hpp hlt'0 hlt0 he0 hkl0
        generalize k0 + 1 = p1 at hp1 G1 ⊢
        obtain ⟨k1, x1, hd1, xl1, xh1⟩ := Ad.dgs_nat (s.data.toList.drop p1)
        have DG1 := hide hd1
        clear hd1
        rw [rounds_succ]
        go_wp2_with fail
        rcases Nat.eq_zero_or_pos k1 with rfl | hk1
        · have HF : Hid ((0, 0, 4) = (a, b, x)) := by
            show _ = _
            rw [← HR.out, Ad.parse_none _ (by rw [G1.out, Ad.go_fail _ _ (Ad.dgs_zero _ _ DG1.out)]; rfl)]
          refine (refDigits_is s _ 0 x1 p1 _ hs hp1 (by first | rfl | omega) DG1.out).mono ?_
          rintro e w1 ⟨rfl, rfl⟩
          clear HR
          go_wp2_with fail
          exact bodyPost_ret (v := Ad.res 0 0 4) (by simp [results, Tryd.results11, go_sem, Ad.res]) rfl ⟨by have := HF.out; simp only [Prod.mk.injEq] at this; rw [← this.1, ← this.2.1, ← this.2.2], balloc (balloc (balloc (brefl w) _) _) _⟩
        · obtain ⟨hn1, hx1, _, hdr1, hkl1⟩ := Ad.dgs_pos _ _ _ hk1 DG1.out
          generalize ht1 : (s.data.toList.drop p1).takeWhile Ad.dig = t1 at hn1 hx1
          rw [List.length_drop, Ad.size_list] at hkl1
          have NN1 := hide hn1
          have XX1 := hide hx1
          have DR1 := hide hdr1
          have TT1 := hide ht1
          clear hn1 hx1 hdr1 ht1
          refine (refDigits_is s _ (k1 : Int) x1 p1 _ hs hp1 (by first | rfl | omega) DG1.out).mono ?_
          rintro e w1 ⟨rfl, rfl⟩
          have hne1 : ((k1 : Int) == 0) = false := by simp; omega
          have hne'1 : (k1 : Int) ≠ 0 := by omega
          have hnz1 : k1 ≠ 0 := by omega
          by_cases he1 : s.size ≤ p1 + k1
          · have HF : Hid ((0, 0, 4) = (a, b, x)) := by
              show _ = _
              rw [← HR.out, Ad.parse_none _ (by rw [G1.out, Ad.go_end _ _ _ (by rw [DR1.out]; exact Ad.drop_end s p1 k1 (by omega))]; rfl)]
            have he' : (s.size : Int) ≤ (p1 : Int) + (k1 : Int) := by omega
            clear HR
            go_wp2_with fail
            exact bodyPost_ret (v := Ad.res 0 0 4) (by simp [results, Tryd.results11, go_sem, Ad.res]) rfl ⟨by have := HF.out; simp only [Prod.mk.injEq] at this; rw [← this.1, ← this.2.1, ← this.2.2], balloc (balloc (balloc (brefl w) _) _) _⟩
          · have hlt1 : p1 + k1 < s.size := by omega
            have hlt'1 : (p1 : Int) + (k1 : Int) < (s.size : Int) := by omega
            by_cases hc1 : (s[p1 + k1].toNat : Int) = 46
            rotate_left
            · have HF : Hid ((0, 0, 4) = (a, b, x)) := by
                show _ = _
                rw [← HR.out, Ad.parse_none _ (by rw [G1.out, Ad.go_other _ s[p1 + k1] _ _ (s.data.toList.drop (p1 + k1 + 1)) (by rw [DR1.out]; have := Ad.drop_at s p1 k1 (by omega); (first | simp only [Nat.zero_add] at this | skip); exact this) (Ad.byte_ne _ 46 hc1)]; rfl)]
              have hcb : ((s[p1 + k1].toNat : Int) != 46) = true := by simpa using hc1
              clear HR
              go_wp2_with fail
              exact bodyPost_ret (v := Ad.res 0 0 4) (by simp [results, Tryd.results11, go_sem, Ad.res]) rfl ⟨by have := HF.out; simp only [Prod.mk.injEq] at this; rw [← this.1, ← this.2.1, ← this.2.2], balloc (balloc (balloc (brefl w) _) _) _⟩
            · have G2 : Hid (Ad.go [46, 46, 46, 47] s.data.toList = (Ad.go [46, 47] (s.data.toList.drop (p1 + k1 + 1))).map fun ts => t0 :: t1 :: ts) := by
                show _ = _
                have hdd : (s.data.toList.drop p1).dropWhile Ad.dig = 46 :: s.data.toList.drop (p1 + k1 + 1) := by
                  rw [DR1.out]
                  have := Ad.drop_at s p1 k1 (by omega)
                  first | simp only [Nat.zero_add] at this | skip
                  rw [this, Ad.byte_eq _ 46 hc1]
                rw [G1.out, Ad.go_next _ _ _ _ hdd (by rw [TT1.out]; exact NN1.out), TT1.out, Option.map_map]
                rfl
              have hcb : ((s[p1 + k1].toNat : Int) != 46) = false := by simpa using hc1
              go_wp2_with fail
              clear hcb G1 DR1 TT1 DG1 hc1
              have hpp : (p1 : Int) + (k1 : Int) + 1 = ((p1 + k1 + 1 : Nat) : Int) := by omega
              rw [hpp]
              have hp2 : p1 + k1 + 1 ≤ s.size := by omega
              clear hpp hlt'1 hlt1 he1 hkl1
              generalize p1 + k1 + 1 = p2 at hp2 G2 ⊢
              obtain ⟨k2, x2, hd2, xl2, xh2⟩ := Ad.dgs_nat (s.data.toList.drop p2)
              have DG2 := hide hd2
              clear hd2
              rw [rounds_succ]
              go_wp2_with fail
              rcases Nat.eq_zero_or_pos k2 with rfl | hk2
              · have HF : Hid ((0, 0, 4) = (a, b, x)) := by
                  show _ = _
                  rw [← HR.out, Ad.parse_none _ (by rw [G2.out, Ad.go_fail _ _ (Ad.dgs_zero _ _ DG2.out)]; rfl)]
                refine (refDigits_is s _ 0 x2 p2 _ hs hp2 (by first | rfl | omega) DG2.out).mono ?_
                rintro e w1 ⟨rfl, rfl⟩
                clear HR
                go_wp2_with fail
                exact bodyPost_ret (v := Ad.res 0 0 4) (by simp [results, Tryd.results11, go_sem, Ad.res]) rfl ⟨by have := HF.out; simp only [Prod.mk.injEq] at this; rw [← this.1, ← this.2.1, ← this.2.2], balloc (balloc (balloc (brefl w) _) _) _⟩
              · obtain ⟨hn2, hx2, _, hdr2, hkl2⟩ := Ad.dgs_pos _ _ _ hk2 DG2.out
                generalize ht2 : (s.data.toList.drop p2).takeWhile Ad.dig = t2 at hn2 hx2
                rw [List.length_drop, Ad.size_list] at hkl2
                have NN2 := hide hn2
                have XX2 := hide hx2
                have DR2 := hide hdr2
                have TT2 := hide ht2
                clear hn2 hx2 hdr2 ht2
                refine (refDigits_is s _ (k2 : Int) x2 p2 _ hs hp2 (by first | rfl | omega) DG2.out).mono ?_
                rintro e w1 ⟨rfl, rfl⟩
                have hne2 : ((k2 : Int) == 0) = false := by simp; omega
                have hne'2 : (k2 : Int) ≠ 0 := by omega
                have hnz2 : k2 ≠ 0 := by omega
                by_cases he2 : s.size ≤ p2 + k2
                · have HF : Hid ((0, 0, 4) = (a, b, x)) := by
                    show _ = _
                    rw [← HR.out, Ad.parse_none _ (by rw [G2.out, Ad.go_end _ _ _ (by rw [DR2.out]; exact Ad.drop_end s p2 k2 (by omega))]; rfl)]
                  have he' : (s.size : Int) ≤ (p2 : Int) + (k2 : Int) := by omega
                  clear HR
                  go_wp2_with fail
                  exact bodyPost_ret (v := Ad.res 0 0 4) (by simp [results, Tryd.results11, go_sem, Ad.res]) rfl ⟨by have := HF.out; simp only [Prod.mk.injEq] at this; rw [← this.1, ← this.2.1, ← this.2.2], balloc (balloc (balloc (brefl w) _) _) _⟩
                · have hlt2 : p2 + k2 < s.size := by omega
                  have hlt'2 : (p2 : Int) + (k2 : Int) < (s.size : Int) := by omega
                  by_cases hc2 : (s[p2 + k2].toNat : Int) = 46
                  rotate_left
                  · have HF : Hid ((0, 0, 4) = (a, b, x)) := by
                      show _ = _
                      rw [← HR.out, Ad.parse_none _ (by rw [G2.out, Ad.go_other _ s[p2 + k2] _ _ (s.data.toList.drop (p2 + k2 + 1)) (by rw [DR2.out]; have := Ad.drop_at s p2 k2 (by omega); (first | simp only [Nat.zero_add] at this | skip); exact this) (Ad.byte_ne _ 46 hc2)]; rfl)]
                    have hcb : ((s[p2 + k2].toNat : Int) != 46) = true := by simpa using hc2
                    clear HR
                    go_wp2_with fail
                    exact bodyPost_ret (v := Ad.res 0 0 4) (by simp [results, Tryd.results11, go_sem, Ad.res]) rfl ⟨by have := HF.out; simp only [Prod.mk.injEq] at this; rw [← this.1, ← this.2.1, ← this.2.2], balloc (balloc (balloc (brefl w) _) _) _⟩
                  · have G3 : Hid (Ad.go [46, 46, 46, 47] s.data.toList = (Ad.go [47] (s.data.toList.drop (p2 + k2 + 1))).map fun ts => t0 :: t1 :: t2 :: ts) := by
                      show _ = _
                      have hdd : (s.data.toList.drop p2).dropWhile Ad.dig = 46 :: s.data.toList.drop (p2 + k2 + 1) := by
                        rw [DR2.out]
                        have := Ad.drop_at s p2 k2 (by omega)
                        first | simp only [Nat.zero_add] at this | skip
                        rw [this, Ad.byte_eq _ 46 hc2]
                      rw [G2.out, Ad.go_next _ _ _ _ hdd (by rw [TT2.out]; exact NN2.out), TT2.out, Option.map_map]
                      rfl
                    have hcb : ((s[p2 + k2].toNat : Int) != 46) = false := by simpa using hc2
                    go_wp2_with fail
                    clear hcb G2 DR2 TT2 DG2 hc2
                    have hpp : (p2 : Int) + (k2 : Int) + 1 = ((p2 + k2 + 1 : Nat) : Int) := by omega
                    rw [hpp]
                    have hp3 : p2 + k2 + 1 ≤ s.size := by omega
                    clear hpp hlt'2 hlt2 he2 hkl2
                    generalize p2 + k2 + 1 = p3 at hp3 G3 ⊢
                    obtain ⟨k3, x3, hd3, xl3, xh3⟩ := Ad.dgs_nat (s.data.toList.drop p3)
                    have DG3 := hide hd3
                    clear hd3
                    rw [rounds_succ]
                    go_wp2_with fail
                    rcases Nat.eq_zero_or_pos k3 with rfl | hk3
                    · have HF : Hid ((0, 0, 4) = (a, b, x)) := by
                        show _ = _
                        rw [← HR.out, Ad.parse_none _ (by rw [G3.out, Ad.go_fail _ _ (Ad.dgs_zero _ _ DG3.out)]; rfl)]
                      refine (refDigits_is s _ 0 x3 p3 _ hs hp3 (by first | rfl | omega) DG3.out).mono ?_
                      rintro e w1 ⟨rfl, rfl⟩
                      clear HR
                      go_wp2_with fail
                      exact bodyPost_ret (v := Ad.res 0 0 4) (by simp [results, Tryd.results11, go_sem, Ad.res]) rfl ⟨by have := HF.out; simp only [Prod.mk.injEq] at this; rw [← this.1, ← this.2.1, ← this.2.2], balloc (balloc (balloc (brefl w) _) _) _⟩
                    · obtain ⟨hn3, hx3, _, hdr3, hkl3⟩ := Ad.dgs_pos _ _ _ hk3 DG3.out
                      generalize ht3 : (s.data.toList.drop p3).takeWhile Ad.dig = t3 at hn3 hx3
                      rw [List.length_drop, Ad.size_list] at hkl3
                      have NN3 := hide hn3
                      have XX3 := hide hx3
                      have DR3 := hide hdr3
                      have TT3 := hide ht3
                      clear hn3 hx3 hdr3 ht3
                      refine (refDigits_is s _ (k3 : Int) x3 p3 _ hs hp3 (by first | rfl | omega) DG3.out).mono ?_
                      rintro e w1 ⟨rfl, rfl⟩
                      have hne3 : ((k3 : Int) == 0) = false := by simp; omega
                      have hne'3 : (k3 : Int) ≠ 0 := by omega
                      have hnz3 : k3 ≠ 0 := by omega
                      by_cases he3 : s.size ≤ p3 + k3
                      · have HF : Hid ((0, 0, 4) = (a, b, x)) := by
                          show _ = _
                          rw [← HR.out, Ad.parse_none _ (by rw [G3.out, Ad.go_end _ _ _ (by rw [DR3.out]; exact Ad.drop_end s p3 k3 (by omega))]; rfl)]
                        have he' : (s.size : Int) ≤ (p3 : Int) + (k3 : Int) := by omega
                        clear HR
                        go_wp2_with fail
                        exact bodyPost_ret (v := Ad.res 0 0 4) (by simp [results, Tryd.results11, go_sem, Ad.res]) rfl ⟨by have := HF.out; simp only [Prod.mk.injEq] at this; rw [← this.1, ← this.2.1, ← this.2.2], balloc (balloc (balloc (brefl w) _) _) _⟩
                      · have hlt3 : p3 + k3 < s.size := by omega
                        have hlt'3 : (p3 : Int) + (k3 : Int) < (s.size : Int) := by omega
                        by_cases hc3 : (s[p3 + k3].toNat : Int) = 47
                        rotate_left
                        · have HF : Hid ((0, 0, 4) = (a, b, x)) := by
                            show _ = _
                            rw [← HR.out, Ad.parse_none _ (by rw [G3.out, Ad.go_other _ s[p3 + k3] _ _ (s.data.toList.drop (p3 + k3 + 1)) (by rw [DR3.out]; have := Ad.drop_at s p3 k3 (by omega); (first | simp only [Nat.zero_add] at this | skip); exact this) (Ad.byte_ne _ 47 hc3)]; rfl)]
                          have hcb : ((s[p3 + k3].toNat : Int) != 47) = true := by simpa using hc3
                          clear HR
                          go_wp2_with fail
                          exact bodyPost_ret (v := Ad.res 0 0 4) (by simp [results, Tryd.results11, go_sem, Ad.res]) rfl ⟨by have := HF.out; simp only [Prod.mk.injEq] at this; rw [← this.1, ← this.2.1, ← this.2.2], balloc (balloc (balloc (brefl w) _) _) _⟩
                        · have G4 : Hid (Ad.go [46, 46, 46, 47] s.data.toList = (Ad.go [] (s.data.toList.drop (p3 + k3 + 1))).map fun ts => t0 :: t1 :: t2 :: t3 :: ts) := by
                            show _ = _
                            have hdd : (s.data.toList.drop p3).dropWhile Ad.dig = 47 :: s.data.toList.drop (p3 + k3 + 1) := by
                              rw [DR3.out]
                              have := Ad.drop_at s p3 k3 (by omega)
                              first | simp only [Nat.zero_add] at this | skip
                              rw [this, Ad.byte_eq _ 47 hc3]
                            rw [G3.out, Ad.go_next _ _ _ _ hdd (by rw [TT3.out]; exact NN3.out), TT3.out, Option.map_map]
                            rfl
                          have hcb : ((s[p3 + k3].toNat : Int) != 47) = false := by simpa using hc3
                          go_wp2_with fail
                          clear hcb G3 DR3 TT3 DG3 hc3
                          have hpp : (p3 : Int) + (k3 : Int) + 1 = ((p3 + k3 + 1 : Nat) : Int) := by omega
                          rw [hpp]
                          have hp4 : p3 + k3 + 1 ≤ s.size := by omega
                          clear hpp hlt'3 hlt3 he3 hkl3
                          generalize p3 + k3 + 1 = p4 at hp4 G4 ⊢
                          obtain ⟨k4, x4, hd4, xl4, xh4⟩ := Ad.dgs_nat (s.data.toList.drop p4)
                          have DG4 := hide hd4
                          clear hd4
                          rw [rounds_succ]
                          go_wp2_with fail
                          rcases Nat.eq_zero_or_pos k4 with rfl | hk4
                          · have HF : Hid ((0, 0, 4) = (a, b, x)) := by
                              show _ = _
                              rw [← HR.out, Ad.parse_none _ (by rw [G4.out, Ad.go_fail _ _ (Ad.dgs_zero _ _ DG4.out)]; rfl)]
                            refine (refDigits_is s _ 0 x4 p4 _ hs hp4 (by first | rfl | omega) DG4.out).mono ?_
                            rintro e w1 ⟨rfl, rfl⟩
                            clear HR
                            go_wp2_with fail
                            exact bodyPost_ret (v := Ad.res 0 0 4) (by simp [results, Tryd.results11, go_sem, Ad.res]) rfl ⟨by have := HF.out; simp only [Prod.mk.injEq] at this; rw [← this.1, ← this.2.1, ← this.2.2], balloc (balloc (balloc (brefl w) _) _) _⟩
                          · obtain ⟨hn4, hx4, _, hdr4, hkl4⟩ := Ad.dgs_pos _ _ _ hk4 DG4.out
                            generalize ht4 : (s.data.toList.drop p4).takeWhile Ad.dig = t4 at hn4 hx4
                            rw [List.length_drop, Ad.size_list] at hkl4
                            have NN4 := hide hn4
                            have XX4 := hide hx4
                            have DR4 := hide hdr4
                            have TT4 := hide ht4
                            clear hn4 hx4 hdr4 ht4
                            refine (refDigits_is s _ (k4 : Int) x4 p4 _ hs hp4 (by first | rfl | omega) DG4.out).mono ?_
                            rintro e w1 ⟨rfl, rfl⟩
                            have hne4 : ((k4 : Int) == 0) = false := by simp; omega
                            have hne'4 : (k4 : Int) ≠ 0 := by omega
                            have hnz4 : k4 ≠ 0 := by omega
                            by_cases he4 : p4 + k4 = s.size
                            rotate_left
                            · have HF : Hid ((0, 0, 4) = (a, b, x)) := by
                                show _ = _
                                rw [← HR.out, Ad.parse_none _ (by rw [G4.out, Ad.go_rest _ (by rw [DR4.out, Ad.drop_at s p4 k4 (by omega)]; simp)]; rfl)]
                              have he' : ((p4 : Int) + (k4 : Int) == (s.size : Int)) = false := by simp; omega
                              have he'' : (p4 : Int) + (k4 : Int) ≠ (s.size : Int) := by omega
                              clear HR
                              go_wp2_with fail
                              exact bodyPost_ret (v := Ad.res 0 0 4) (by simp [results, Tryd.results11, go_sem, Ad.res]) rfl ⟨by have := HF.out; simp only [Prod.mk.injEq] at this; rw [← this.1, ← this.2.1, ← this.2.2], balloc (balloc (balloc (brefl w) _) _) _⟩
                            · have G5 : Hid (Ad.go [46, 46, 46, 47] s.data.toList = some [t0, t1, t2, t3, t4]) := by
                                show _ = _
                                rw [G4.out, Ad.go_last _ (by rw [DR4.out]; exact Ad.drop_end s p4 k4 (by omega)) (by rw [TT4.out]; exact NN4.out), TT4.out]
                                rfl
                              have he' : (p4 : Int) + (k4 : Int) = (s.size : Int) := by omega
                              go_wp2_with fail
                              clear G4 DR4 TT4 DG4
                              refine wp_loop_rounds 6 ?_
                              obtain ⟨hpt, -, -, -, -, -⟩ := Ad.parse_go _ _ _ _ _ _ G5.out
                              have PT : Hid (Ad.parseT t0 t1 t2 t3 t4 = (a, b, x)) := by
                                show _ = _
                                rw [← hpt, HR.out]
                              clear hpt G5 HR
                              have BD0 := hide (Ad.bad_clamp t0 255 NN0.out (by decide))
                              rw [← XX0.out] at BD0
                              have BD1 := hide (Ad.bad_clamp t1 255 NN1.out (by decide))
                              rw [← XX1.out] at BD1
                              have BD2 := hide (Ad.bad_clamp t2 255 NN2.out (by decide))
                              rw [← XX2.out] at BD2
                              have BD3 := hide (Ad.bad_clamp t3 255 NN3.out (by decide))
                              rw [← XX3.out] at BD3
                              have BD4 := hide (Ad.bad_clamp t4 32 NN4.out (by decide))
                              rw [← XX4.out] at BD4
                              rw [rounds_succ]
                              by_cases hr0 : 255 < x0
                              · have HF : Hid ((0, 0, 7) = (a, b, x)) := by
                                  show _ = _
                                  rw [← PT.out]
                                  unfold Ad.parseT
                                  rw [if_pos (by rw [BD0.out, decide_eq_true hr0]; simp)]
                                clear PT
                                go_wp2_with fail
                                exact bodyPost_ret (v := Ad.res 0 0 7) (by simp [results, Tryd.results11, go_sem, Ad.res]) rfl ⟨by have := HF.out; simp only [Prod.mk.injEq] at this; rw [← this.1, ← this.2.1, ← this.2.2], balloc (balloc (balloc (brefl w) _) _) _⟩
                              · have hr0' : x0 ≤ 255 := by omega
                                go_wp2_with fail
                                rw [rounds_succ]
                                by_cases hr1 : 255 < x1
                                · have HF : Hid ((0, 0, 7) = (a, b, x)) := by
                                    show _ = _
                                    rw [← PT.out]
                                    unfold Ad.parseT
                                    rw [if_pos (by rw [BD1.out, decide_eq_true hr1]; simp)]
                                  clear PT
                                  go_wp2_with fail
                                  exact bodyPost_ret (v := Ad.res 0 0 7) (by simp [results, Tryd.results11, go_sem, Ad.res]) rfl ⟨by have := HF.out; simp only [Prod.mk.injEq] at this; rw [← this.1, ← this.2.1, ← this.2.2], balloc (balloc (balloc (brefl w) _) _) _⟩
                                · have hr1' : x1 ≤ 255 := by omega
                                  go_wp2_with fail
                                  rw [rounds_succ]
                                  by_cases hr2 : 255 < x2
                                  · have HF : Hid ((0, 0, 7) = (a, b, x)) := by
                                      show _ = _
                                      rw [← PT.out]
                                      unfold Ad.parseT
                                      rw [if_pos (by rw [BD2.out, decide_eq_true hr2]; simp)]
                                    clear PT
                                    go_wp2_with fail
                                    exact bodyPost_ret (v := Ad.res 0 0 7) (by simp [results, Tryd.results11, go_sem, Ad.res]) rfl ⟨by have := HF.out; simp only [Prod.mk.injEq] at this; rw [← this.1, ← this.2.1, ← this.2.2], balloc (balloc (balloc (brefl w) _) _) _⟩
                                  · have hr2' : x2 ≤ 255 := by omega
                                    go_wp2_with fail
                                    rw [rounds_succ]
                                    by_cases hr3 : 255 < x3
                                    · have HF : Hid ((0, 0, 7) = (a, b, x)) := by
                                        show _ = _
                                        rw [← PT.out]
                                        unfold Ad.parseT
                                        rw [if_pos (by rw [BD3.out, decide_eq_true hr3]; simp)]
                                      clear PT
                                      go_wp2_with fail
                                      exact bodyPost_ret (v := Ad.res 0 0 7) (by simp [results, Tryd.results11, go_sem, Ad.res]) rfl ⟨by have := HF.out; simp only [Prod.mk.injEq] at this; rw [← this.1, ← this.2.1, ← this.2.2], balloc (balloc (balloc (brefl w) _) _) _⟩
                                    · have hr3' : x3 ≤ 255 := by omega
                                      go_wp2_with fail
                                      rw [rounds_succ]
                                      by_cases hr4 : 32 < x4
                                      · have HF : Hid ((0, 0, 7) = (a, b, x)) := by
                                          show _ = _
                                          rw [← PT.out]
                                          unfold Ad.parseT
                                          rw [if_pos (by rw [BD4.out, decide_eq_true hr4]; simp)]
                                        clear PT
                                        by_cases h255 : 255 < x4
                                        · go_wp2_with fail
                                          exact bodyPost_ret (v := Ad.res 0 0 7) (by simp [results, Tryd.results11, go_sem, Ad.res]) rfl ⟨by have := HF.out; simp only [Prod.mk.injEq] at this; rw [← this.1, ← this.2.1, ← this.2.2], balloc (balloc (balloc (brefl w) _) _) _⟩
                                        · go_wp2_with fail
                                          exact bodyPost_ret (v := Ad.res 0 0 7) (by simp [results, Tryd.results11, go_sem, Ad.res]) rfl ⟨by have := HF.out; simp only [Prod.mk.injEq] at this; rw [← this.1, ← this.2.1, ← this.2.2], balloc (balloc (balloc (brefl w) _) _) _⟩
                                      · have hr4' : x4 ≤ 32 := by omega
                                        have h255 : ¬ 255 < x4 := by omega
                                        go_wp2_with fail
                                        rw [rounds_succ]
                                        go_wp2_with fail
                                        have HA : Hid (Ad.addr4 t0 t1 t2 t3 = x0 * 16777216 + x1 * 65536 + x2 * 256 + x3) := by
                                          show _ = _
                                          have q : ∀ (t : List UInt8) (z : Int), z = Ad.clamp (Ad.num t) → z ≤ 255 → Ad.num t = z := by
                                            intro t z hz hz2
                                            unfold Ad.clamp at hz
                                            split at hz <;> omega
                                          unfold Ad.addr4
                                          rw [q t0 x0 XX0.out hr0', q t1 x1 XX1.out hr1', q t2 x2 XX2.out hr2', q t3 x3 XX3.out hr3']
                                          omega
                                        have HB : Hid (Ad.num t4 = x4) := by
                                          show _ = _
                                          have hz := XX4.out
                                          unfold Ad.clamp at hz
                                          split at hz <;> omega
                                        have hy0 : 0 ≤ x0 * 16777216 + x1 * 65536 + x2 * 256 + x3 := by omega
                                        have hy1 : x0 * 16777216 + x1 * 65536 + x2 * 256 + x3 ≤ 4294967295 := by omega
                                        have HN : Hid ((Ad.bad t0 255 || Ad.bad t1 255 || Ad.bad t2 255 || Ad.bad t3 255 || Ad.bad t4 32) = false) := by
                                          show _ = _
                                          rw [BD0.out, BD1.out, BD2.out, BD3.out, BD4.out, decide_eq_false (by omega), decide_eq_false (by omega), decide_eq_false (by omega), decide_eq_false (by omega), decide_eq_false (by omega)]
                                          rfl
                                        generalize x0 * 16777216 + x1 * 65536 + x2 * 256 + x3 = y at hy0 hy1 HA ⊢
                                        cases hm : Ad.may y x4
                                        · have HF : Hid ((0, 0, 1) = (a, b, x)) := by
                                            show _ = _
                                            rw [← PT.out]
                                            unfold Ad.parseT
                                            rw [HN.out, HA.out, HB.out, hm]
                                            rfl
                                          refine (refMay_is _ _ _ hm _ hy0 hy1).mono ?_
                                          rintro e w3 ⟨rfl, hb3⟩
                                          obtain ⟨hc3, hf3⟩ := bcell hb3
                                          have hsz := hb3.size
                                          simp at hsz
                                          have g0 : w3.cell? ⟨w.heap.size, 0, none⟩ = some (.int .u32 0) := (hc3 _ 0 (by simp; omega)).trans (by simp [go_sem])
                                          have g1 : w3.cell? ⟨w.heap.size, 1, none⟩ = some (.int .i64 0) := (hc3 _ 1 (by simp; omega)).trans (by simp [go_sem])
                                          have z0 : w.heap.size < w3.heap.size := by omega
                                          have z1 : w.heap.size + 1 < w3.heap.size := by omega
                                          have z3 : w.heap.size + 1 + 1 + 1 < w3.heap.size := by omega
                                          clear PT
                                          go_wp2_with fail
                                          exact bodyPost_ret (v := Ad.res 0 0 1) (by simp [results, Tryd.results11, go_sem, g0, g1, Ad.res]) rfl ⟨by have := HF.out; simp only [Prod.mk.injEq] at this; rw [← this.1, ← this.2.1, ← this.2.2], bset (bset (bthen (balloc (balloc (balloc (balloc (brefl w) _) _) _) _) hb3) (by simp) _) (by simp) _⟩
                                        · have HF : Hid ((y, x4, 0) = (a, b, x)) := by
                                            show _ = _
                                            rw [← PT.out]
                                            unfold Ad.parseT
                                            rw [HN.out, HA.out, HB.out, hm]
                                            rfl
                                          refine (refMay_is _ _ _ hm _ hy0 hy1).mono ?_
                                          rintro e w3 ⟨rfl, hb3⟩
                                          obtain ⟨hc3, hf3⟩ := bcell hb3
                                          have hsz := hb3.size
                                          simp at hsz
                                          have g0 : w3.cell? ⟨w.heap.size, 0, none⟩ = some (.int .u32 0) := (hc3 _ 0 (by simp; omega)).trans (by simp [go_sem])
                                          have g1 : w3.cell? ⟨w.heap.size, 1, none⟩ = some (.int .i64 0) := (hc3 _ 1 (by simp; omega)).trans (by simp [go_sem])
                                          have z0 : w.heap.size < w3.heap.size := by omega
                                          have z1 : w.heap.size + 1 < w3.heap.size := by omega
                                          have z3 : w.heap.size + 1 + 1 + 1 < w3.heap.size := by omega
                                          clear PT
                                          go_wp2_with fail
                                          exact bodyPost_ret (v := Ad.res y x4 0) (by simp [results, Tryd.results11, go_sem, g0, g1, Ad.res]) rfl ⟨by have := HF.out; simp only [Prod.mk.injEq] at this; rw [← this.1, ← this.2.1, ← this.2.2], bset (bset (bthen (balloc (balloc (balloc (balloc (brefl w) _) _) _) _) hb3) (by simp) _) (by simp) _⟩
end Go.Proofs.YtfkajefminopjaaDoor
