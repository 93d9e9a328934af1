/- The law HeapPlays, whole. -/
import Derived.Test.YtkfomjinilmjaaaPd
namespace Go.Proofs.Ytkfomjinilmjaaa
open Go.RowKit Go.Maps

set_option maxHeartbeats 16000000 in
set_option maxRecDepth 100000 in
theorem law_plays (ao : Option Addr) (cap : Nat) (os : List Opn) (w : World) (hR : Opn.rowAt w ao os) :
    Calls Try.prog 3 #[.slice ao os.length cap] w fun e w' => e = .returned (.bool true) ∧ Below w.heap.size w w' := by
  have CN := hide (new_is ltI 9 w)
  have CV := hide (fun W => lives_is W)
  have HRW := hide hR
  clear hR
  go_enter Try.func3, Try.ntmps3
  go_wp2_with fail
  refine CN.out.mono ?_
  intro e w1 hm
  obtain ⟨h, m, rfl, S1, _, _⟩ := HS.made hm (brefl w)
  have HS1 : Hid (HL w w1 h [] 0 none m none 0) := ⟨S1, good_nil _, fun a e => by cases e⟩
  clear hm S1 CN
  go_wp2_with fail
  go_loopw [4, 5] (fun v4 v5 wr => ∃ (k : Nat) (L : List RwS) (T : Int) (ah : Option Addr) (al : Option Addr) (cl : Nat), v4 = .slice al L.length cl ∧ v5 = .int .i64 k ∧ k ≤ os.length ∧ k ≤ 50 ∧ L.length ≤ k ∧ T ≤ k ∧ Hid (HL w wr h L T ah m al cl)) (fun _ v5 _ => os.length - (intOf v5).toNat)
  case atStart => exact ⟨0, [], 0, none, none, 0, rfl, rfl, Nat.zero_le _, Nat.zero_le _, Nat.le_refl _, Int.le_refl _, HS1⟩
  case round =>
    obtain ⟨k, L, T, ah, al, cl, rfl, rfl, hk, hk6, hL, hT, S2⟩ := hrel
    clear HS1
    by_cases hlt : k < os.length
    · by_cases h60 : k < 50
      · have hlt' : (k : Int) < (os.length : Int) := by omega
        have h60' : (k : Int) < 50 := by omega
        obtain ⟨b, off, rfl, hbl, hr⟩ : ∃ b off, ao = some ⟨b, off, none⟩ ∧ b < w.heap.size ∧ Opn.reads w b off os := by
          rcases HRW.out with h | h
          · rw [h] at hlt; simp at hlt
          · exact h
        obtain ⟨e0, e1, e2⟩ := Opn.reads_below hr hbl S2.out.hs.below k hlt
        generalize os[k] = x at *
        obtain ⟨x0, x1, x2⟩ := x
        simp only at e0 e1 e2
        have HQ0 := hide S2.out.hs.hp.old
        have NQ0 := hide (three_new wr x0 x1 x2)
        replace S2 := hide (S2.out.next (balloc (brefl wr) (.cells #[.int .i64 x0, .int .i64 x1, .string x2] 28)))
        have CLt := hide (light_is x0 x1 x2 (wr.alloc (.cells #[.int .i64 x0, .int .i64 x1, .string x2] 28)))
        clear hr
        obtain ⟨Q, hQ⟩ : ∃ Q, wr.heap.size = Q := ⟨_, rfl⟩
        rw [hQ] at NQ0
        have HQ : Hid (∀ b, Own h m ah b → b < Q) := fun b hb => by rw [← hQ]; exact HQ0.out b hb
        obtain ⟨q0, q1, q2⟩ := three_cells NQ0.out
        clear HQ0
        by_cases hx2 : x2.size ≤ 200
        · rw [decide_eq_true hx2] at CLt
          go_wp2_with fail
          try rw [hQ]
          clear hQ
          refine CLt.out.mono ?_
          rintro e w2 ⟨rfl, hb2⟩
          replace S2 := hide (S2.out.next hb2)
          have NQ := hide ((hb2.block Q (lt_of_block NQ0.out)).trans NQ0.out)
          obtain ⟨q0, q1, q2⟩ := three_cells NQ.out
          clear hb2 CLt NQ0
          by_cases hx0 : x0 = 0
          · subst hx0
            have CRS := hide (refSet_is (t := T + 1) S2.out.good S2.out.hs.hp.once (by omega) x2 x1)
            go_wp2_with fail
            refine CRS.out.mono ?_
            intro e w3 hs3
            have HS3 := hide hs3
            obtain ⟨al3, cl3, rfl, _, hb3, _⟩ := hs3
            obtain ⟨L9, hL9⟩ : ∃ L9, without L x2 ++ [(⟨x2, x1, T + 1⟩ : RwS)] = L9 := ⟨_, rfl⟩
            rw [hL9]
            have HL9 := hide hL9
            clear hL9
            have CS := hide (set_is ordsI lessI (S2.out.hs.next hb3).hp (by omega) hx2 x1 S2.out.hs.t0 (by omega) S2.out.hs.top)
            obtain ⟨q0, q1, q2⟩ := three_cells ((hb3.block Q (lt_of_block NQ.out)).trans NQ.out)
            have NQ3 := hide ((hb3.block Q (lt_of_block NQ.out)).trans NQ.out)
            clear hb3 CRS
            obtain ⟨bb, hbb⟩ : ∃ bb, (rowOf L x2).isSome = bb := ⟨_, rfl⟩
            rw [hbb]
            have HBB := hide hbb
            clear hbb
            go_wp2_with fail
            refine CS.out.mono ?_
            intro e w4 hs4
            obtain ⟨ao9, al9, cl9, he1, rfl, S9', k4⟩ := S2.out.set HS3.out hs4
            rw [HL9.out] at S9'
            simp only [Ending.returned.injEq, Value.tuple.injEq, Array.mk.injEq, List.cons.injEq, Value.slice.injEq] at he1
            obtain ⟨⟨rfl, _, rfl⟩, _⟩ := he1
            rw [HBB.out]
            have hl9 := set_len (k := x2) (r := x1) S2.out.hs
            rw [HL9.out] at hl9
            have S9 := hide S9'
            obtain ⟨q0, q1, q2⟩ := three_cells ((k4.block Q (fun e => by have := HQ.out _ e; omega) (lt_of_block NQ3.out)).trans NQ3.out)
            have hbe : (bb == bb) = true := by simp
            clear hs4 S9' k4 CS S2 HS3 NQ3 HL9

            have CA := hide (alike_is S9.out (by omega) hx2)
            go_wp2_with fail
            refine CA.out.mono ?_
            rintro e w9 ⟨rfl, hb9⟩
            have SA := hide (S9.out.next hb9)
            clear hb9 CA S9
            go_wp2_with fail
            exact ⟨⟨k + 1, L9, T + 1, ao9, al3, cl3, rfl, by go_num, by omega, by omega, by omega, by omega, SA⟩, by simp [intOf]; omega⟩
          · have hb0 : (x0 == 0) = false := by simp [hx0]
            by_cases hx1 : x0 = 1
            · subst hx1
              have CRD := hide (refDrop_is S2.out.good S2.out.hs.hp.once (by omega) x2)
              go_wp2_with fail
              refine CRD.out.mono ?_
              rintro e w3 ⟨al3, cl3, rfl, hg3, hb3, hnr3⟩
              have CD := hide (drop_is ordsI lessI (S2.out.hs.next hb3).hp (by omega) hx2)
              obtain ⟨q0, q1, q2⟩ := three_cells ((hb3.block Q (lt_of_block NQ.out)).trans NQ.out)
              have NQ3 := hide ((hb3.block Q (lt_of_block NQ.out)).trans NQ.out)
              have HG3 := hide hg3
              have HB3 := hide hb3
              have HN3 := hide hnr3
              clear hg3 hb3 hnr3 CRD
              obtain ⟨bb, hbb⟩ : ∃ bb, (rowOf L x2).isSome = bb := ⟨_, rfl⟩
              rw [hbb]
              have HBB := hide hbb
              clear hbb
              go_wp2_with fail
              refine CD.out.mono ?_
              rintro e w4 ⟨rfl, h4, k4⟩
              rw [HBB.out]
              have S9 := hide (S2.out.drop HG3.out HB3.out HN3.out h4 k4)
              have hl9 : (without L x2).length ≤ L.length := List.length_filter_le _ _
              obtain ⟨q0, q1, q2⟩ := three_cells ((k4.block Q (fun e => by have := HQ.out _ e; omega) (lt_of_block NQ3.out)).trans NQ3.out)
              generalize without L x2 = L9 at *
              have hbe : (bb == bb) = true := by simp
              clear h4 k4 CD S2 HG3 HB3 HN3 NQ3

              have CA := hide (alike_is S9.out (by omega) hx2)
              go_wp2_with fail
              refine CA.out.mono ?_
              rintro e w9 ⟨rfl, hb9⟩
              have SA := hide (S9.out.next hb9)
              clear hb9 CA S9
              go_wp2_with fail
              exact ⟨⟨k + 1, L9, T, ah, al3, cl3, rfl, by go_num, by omega, by omega, by omega, by omega, SA⟩, by simp [intOf]; omega⟩
            · have hb1 : (x0 == 1) = false := by simp [hx1]
              by_cases hx3 : x0 = 2
              · subst hx3
                have CP := hide (pop_is ordsI lessI S2.out.hs.hp (by omega))
                have CRF : Hid (∀ W, Keep (Own h m ah) w2 W → Calls Try.prog 17 #[.slice al L.length cl] W (RefFirst L W)) := fun W hW => refFirst_is (S2.out.good.kept hW S2.out.apart).row S2.out.hs.hp.turn (by omega)
                go_wp2_with fail
                refine CP.out.mono ?_
                rintro e w3 hp
                rcases hp with ⟨hL0, rfl, hw⟩ | ⟨x, hF, rfl, h3, k3⟩
                · have hw' := hw.symm
                  clear hw
                  subst hw'
                  have HL0 := hide hL0
                  clear hL0
                  go_wp2_with fail
                  refine (CRF.out _ (Keep.refl _ _)).mono ?_
                  rintro e w4 ⟨hb4, hrf⟩
                  rcases hrf with ⟨h00, rfl⟩ | ⟨j, y, _, hy, _⟩
                  · clear h00
                    have S9 := hide (S2.out.next hb4)
                    obtain ⟨q0, q1, q2⟩ := three_cells ((hb4.block Q (lt_of_block NQ.out)).trans NQ.out)
                    have hm1 : ¬ (0 : Int) ≤ -1 := by decide
                    clear hb4 CP CRF S2
                    have CA := hide (alike_is S9.out (by omega) hx2)
                    go_wp2_with fail
                    refine CA.out.mono ?_
                    rintro e w9 ⟨rfl, hb9⟩
                    have SA := hide (S9.out.next hb9)
                    clear hb9 CA S9
                    go_wp2_with fail
                    exact ⟨⟨k + 1, L, T, ah, al, cl, rfl, by go_num, by omega, by omega, by omega, by omega, SA⟩, by simp [intOf]; omega⟩
                  · rw [HL0.out] at hy; simp at hy
                · have HF := hide hF
                  have HK3 := hide k3
                  have HH3 := hide h3
                  obtain ⟨q0, q1, q2⟩ := three_cells ((k3.block Q (fun e => by have := HQ.out _ e; omega) (lt_of_block NQ.out)).trans NQ.out)
                  have NQ3 := hide ((k3.block Q (fun e => by have := HQ.out _ e; omega) (lt_of_block NQ.out)).trans NQ.out)
                  clear hF k3 h3 CP
                  go_wp2_with fail
                  refine (CRF.out _ HK3.out).mono ?_
                  rintro e w4 ⟨hb4, hrf⟩
                  rcases hrf with ⟨hL0, _⟩ | ⟨j, y, rfl, hy, hFy⟩
                  · exact absurd HF.out.1 (by rw [hL0]; simp)
                  have hxy := HF.out.one S2.out.hs.hp.turn hFy
                  subst hxy
                  have hjl := get_lt hy
                  have hjl' : (j : Int) < (L.length : Int) := by omega
                  have hj0 : (0 : Int) ≤ (j : Int) := by omega
                  have G4 := hide ((S2.out.good.kept HK3.out S2.out.apart).below hb4)
                  obtain ⟨b5, o5, e5, hr⟩ : ∃ b off, al = some ⟨b, off, none⟩ ∧ Th.reads w4 b off L := by
                    rcases G4.out.row with h | h
                    · rw [h] at hjl; simp at hjl
                    · exact h
                  obtain ⟨E0, E1⟩ := Th.reads_at hr j hjl
                  rw [(List.getElem?_eq_some_iff.1 hy).2] at E0 E1
                  obtain ⟨q0, q1, q2⟩ := three_cells ((hb4.block Q (lt_of_block NQ3.out)).trans NQ3.out)
                  have NQ4 := hide ((hb4.block Q (lt_of_block NQ3.out)).trans NQ3.out)
                  have HB4 := hide hb4
                  have CD := hide (refDrop_is G4.out S2.out.hs.hp.once (by omega) x.k)
                  have hl9 := fst_len S2.out.hs.hp HF.out
                  subst e5
                  clear hr hFy hy hb4 CRF
                  obtain ⟨xk, xr, xt⟩ := x
                  simp only at E0 E1 CD HH3
                  have hbe : (xk == xk) = true := (Go.MapKept.bytes_beq xk xk).2 rfl
                  have hbr : (xr == xr) = true := by simp
                  go_wp2_with fail
                  refine CD.out.mono ?_
                  rintro e w5 ⟨al5, cl5, rfl, hg5, hb5, hnr5⟩
                  have S9 : Hid (HL w w5 h (without L xk) T ah m al5 cl5) := S2.out.drop' HH3.out HK3.out hg5 (bthen HB4.out hb5) (fun a e => by
                    rcases hnr5 a e with h | h
                    · exact .inl h
                    · have := HB4.out.size
                      exact .inr (by omega))
                  obtain ⟨q0, q1, q2⟩ := three_cells ((hb5.block Q (lt_of_block NQ4.out)).trans NQ4.out)
                  try simp only at hl9
                  generalize without L xk = L9 at *
                  clear hg5 hb5 hnr5 CD S2 G4 HH3 HK3 HB4 NQ3 NQ4 E0 E1
                  have CA := hide (alike_is S9.out (by omega) hx2)
                  go_wp2_with fail
                  refine CA.out.mono ?_
                  rintro e w9 ⟨rfl, hb9⟩
                  have SA := hide (S9.out.next hb9)
                  clear hb9 CA S9
                  go_wp2_with fail
                  exact ⟨⟨k + 1, L9, T, ah, al5, cl5, rfl, by go_num, by omega, by omega, by omega, by omega, SA⟩, by simp [intOf]; omega⟩
              · have hb2 : (x0 == 2) = false := by simp [hx3]
                have S9 := S2
                clear S2

                have CA := hide (alike_is S9.out (by omega) hx2)
                go_wp2_with fail
                refine CA.out.mono ?_
                rintro e w9 ⟨rfl, hb9⟩
                have SA := hide (S9.out.next hb9)
                clear hb9 CA S9
                go_wp2_with fail
                exact ⟨⟨k + 1, L, T, ah, al, cl, rfl, by go_num, by omega, by omega, by omega, by omega, SA⟩, by simp [intOf]; omega⟩
        · rw [decide_eq_false hx2] at CLt
          go_wp2_with fail
          refine CLt.out.mono ?_
          rintro e w2 ⟨rfl, hb2⟩
          have B2 := hide (bthen S2.out.hs.below hb2)
          clear hb2 CLt S2
          go_wp2_with fail
          refine (CV.out _).mono ?_
          rintro e w3 ⟨rfl, hb3⟩
          have B3 := hide (bthen B2.out hb3)
          clear hb3
          go_wp2_with fail
          go_ret
          exact ⟨rfl, B3.out⟩
      · have h60' : ¬ (k : Int) < 50 := by omega
        have hlt' : (k : Int) < (os.length : Int) := by omega
        go_wp2_with fail
        refine (CV.out _).mono ?_
        rintro e w3 ⟨rfl, hb3⟩
        have B3 := hide (bthen S2.out.hs.below hb3)
        clear hb3
        go_wp2_with fail
        go_ret
        exact ⟨rfl, B3.out⟩
    · have hlt' : ¬ (k : Int) < (os.length : Int) := by omega
      go_wp2_with fail
      refine (CV.out _).mono ?_
      rintro e w3 ⟨rfl, hb3⟩
      have B3 := hide (bthen S2.out.hs.below hb3)
      clear hb3
      go_wp2_with fail
      go_ret
      exact ⟨rfl, B3.out⟩
end Go.Proofs.Ytkfomjinilmjaaa
