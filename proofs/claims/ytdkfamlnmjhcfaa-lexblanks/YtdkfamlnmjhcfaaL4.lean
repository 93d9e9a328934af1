/- The law LexPlaces. -/
import Derived.Test.YtdkfamlnmjhcfaaK3
namespace Go.Proofs.Ytdkfamlnmjhcfaa
open Go.RowKit Go.Sort

/-- A token as it stands in a text. -/
def Tok.out (t : Tok) : List UInt8 := wr t.kind t.s
theorem Stand.head {l : List UInt8} {k : Nat} {ts : List Tok} {i : Nat} (h : i < ts.length) (hs : Stand l k (ts.drop i)) : k ≤ ts[i].at_ ∧ ts[i].at_ + ts[i].out.length ≤ l.length ∧ (l.drop ts[i].at_).take ts[i].out.length = ts[i].out ∧ Stand l (ts[i].at_ + ts[i].out.length) (ts.drop (i + 1)) := by
  rw [List.drop_eq_getElem_cons h] at hs
  cases hs with
  | cons h1 h2 h3 h4 => exact ⟨h1, h2, h3, h4⟩
theorem good_out {t : Tok} (h : Good t.kind t.s) : 1 ≤ t.out.length := by
  unfold Tok.out wr
  rcases h with ⟨hk, hs, _⟩ | ⟨hk, _⟩ | ⟨hk, c, hs, _⟩
  · rw [hk, if_neg (by decide)]
    exact List.length_pos_iff.2 hs
  · rw [hk, if_pos rfl]
    simp
  · rw [hk, if_neg (by decide), hs]
    simp
theorem wr_text {s : List UInt8} : txt (wr 1 s) = ⟨#[34]⟩ ++ txt s ++ ⟨#[34]⟩ := by
  apply ByteArray.ext
  simp [wr]
theorem wr_plain {k : Nat} {s : List UInt8} (h : ¬ k = 1) : txt (wr k s) = txt s := by rw [wr, if_neg h]
set_option maxHeartbeats 4000000 in
set_option maxRecDepth 100000 in
theorem law_places (K : Kit11) (s : ByteArray) (at_ : Int) (w : World) : Calls Try.prog 5 #[.string s, .int .i64 at_] w fun e w' => e = .returned (.bool true) ∧ Below w.heap.size w w' := by
  have CL := hide (fun W => lives11_is K W)
  go_enter Try.func5, Try.ntmps5
  by_cases h4 : 2000 < s.size
  · have h4' : (2000 : Int) < (s.size : Int) := by omega
    clear h4
    go_wp2_with fail
    refine (CL.out _).mono ?_
    rintro e wz ⟨rfl, hbz⟩
    go_wp2_with fail
    go_ret
    exact ⟨rfl, hbz⟩
  · have h4' : ¬ (2000 : Int) < (s.size : Int) := by omega
    have hs2 : s.size ≤ 2000 := by omega
    clear h4
    have CP1 := hide (K.place s at_ (by omega))
    have CP2 := hide (refPlace_is s at_ (by omega))
    have CE1 := hide (K.end_ s (by omega))
    have CE2 : Hid (∀ W, Calls Try.prog 13 #[.string s, .int .i64 (s.size : Int)] W fun e w' => e = .returned (.agg #[.int .i64 ((plc (lst s) s.size).1 : Nat), .int .i64 ((plc (lst s) s.size).2 : Nat)]) ∧ Below W.heap.size W w') := fun W => by have h := refPlace_is s (s.size : Int) (by omega) W; rw [Int.toNat_natCast] at h; exact h
    have CPK : Hid (∀ (k : Nat) W, Calls Try.prog 13 #[.string s, .int .i64 (k : Int)] W fun e w' => e = .returned (.agg #[.int .i64 ((plc (lst s) k).1 : Nat), .int .i64 ((plc (lst s) k).2 : Nat)]) ∧ Below W.heap.size W w') := fun k W => by have h := refPlace_is s (k : Int) (by omega) W; rw [Int.toNat_natCast] at h; exact h
    generalize plc (lst s) at_.toNat = pp at *
    obtain ⟨p1, q1⟩ := pp
    simp only at CP1 CP2
    generalize (p1 : Int) = p1 at *
    generalize (q1 : Int) = q1 at *
    obtain ⟨pp, hpp⟩ : ∃ pp, plc (lst s) s.size = pp := ⟨_, rfl⟩
    rw [hpp] at CE1 CE2
    clear hpp
    obtain ⟨p2, q2⟩ := pp
    simp only at CE1 CE2
    generalize (p2 : Int) = p2 at *
    generalize (q2 : Int) = q2 at *
    have e1 : (p1 == p1) = true := by simp
    have e2 : (q1 == q1) = true := by simp
    have e3 : (p2 == p2) = true := by simp
    have e4 : (q2 == q2) = true := by simp
    go_wp2_with fail
    refine (CP1.out _).mono ?_
    rintro e w1 ⟨rfl, b1⟩
    have B1 := hide b1
    clear b1 CP1
    go_wp2_with fail
    refine (CP2.out _).mono ?_
    rintro e w2 ⟨rfl, b2⟩
    have B2 := hide (bthen B1.out b2)
    clear b2 CP2 B1
    go_wp2_with fail
    refine (CE1.out _).mono ?_
    rintro e w3 ⟨rfl, b3⟩
    have B3 := hide (bthen B2.out b3)
    clear b3 CE1 B2
    go_wp2_with fail
    refine (CE2.out _).mono ?_
    rintro e w4 ⟨rfl, b4⟩
    have B4 := hide (bthen B3.out b4)
    clear b4 CE2 B3
    have CS := hide (K.scan s (by omega) w4)
    go_wp2_with fail
    refine CS.out.mono ?_
    rintro e w5 ⟨v, ts, p, q, c, rfl, hr, hi, hb⟩
    clear CS e1 e2 e3 e4
    have A1 := hide (balloc (brefl w5) (.cells #[.int .i64 p, .int .i64 q] 25))
    have B5 := hide (bthen (bthen B4.out hb) A1.out)
    have R1 := hide (row_below hr A1.out)
    clear hb B4
    by_cases hc : c = 0
    · subst hc
      obtain ⟨h8, hsc, rfl, rfl⟩ := hi.ok rfl
      have HN : Hid (ts.length ≤ 100000) := by have := hsc.count; rw [lst_size] at this; show _ ≤ _; omega
      have HG := hide hsc.good
      have HST := hide (hsc.stand (l := lst s) rfl (Nat.zero_le _))
      obtain ⟨ao, cp, rfl, _⟩ := Tv.slot_row (row_tv hr)
      rw [List.length_map] at R1
      obtain ⟨N, hN⟩ : ∃ N, ts.length = N := ⟨_, rfl⟩
      have HNN := hide hN
      rw [List.length_map]
      rw [hN] at R1 ⊢
      clear hr hi hsc hN h8
      go_upto_region 8 with fail
      generalize w5.alloc (.cells #[.int .i64 0, .int .i64 0] 25) = W6 at *
      clear A1
      have hNb : N ≤ 100000 := by rw [← HNN.out]; exact HN.out
      go_wp2_with fail
      go_loopw [8, 9] (fun v8 v9 wr => ∃ k i : Nat, v8 = .int .i64 (k : Int) ∧ v9 = .int .i64 (i : Int) ∧ i ≤ N ∧ k ≤ s.size ∧ Hid (Stand (lst s) k (ts.drop i)) ∧ Hid (Below W6.heap.size W6 wr)) (fun _ v9 _ => N - (intOf v9).toNat)
      case atStart => exact ⟨0, 0, rfl, rfl, Nat.zero_le _, Nat.zero_le _, HST, brefl W6⟩
      case round =>
        obtain ⟨k0, i, rfl, rfl, hiN, hks, HS, HB⟩ := hrel
        rcases Nat.lt_or_ge i N with hlt | hge
        · have h1 : (i : Int) < (N : Int) := by omega
          have hi1 : i < ts.length := by rw [HNN.out]; exact hlt
          obtain ⟨g, cp', e1, a0, a1, a2, a3⟩ := tok_at (l := lst s) (ts := ts) (by rw [HNN.out]; exact R1.out) i hi1
          simp only [Value.slice.injEq] at e1
          obtain ⟨rfl, hx9, rfl⟩ := e1
          clear hx9
          have hgW : g < W6.heap.size := World.block_lt_of_cell? _ _ a0
          obtain ⟨hk0, hend, htak, hrest⟩ := Stand.head hi1 HS.out
          rw [lst_size] at hend
          have HREST := hide hrest
          have HEXT : Hid (s.extract ts[i].at_ (ts[i].at_ + ts[i].out.length) = txt (ts[i].out)) := by
            show _ = _
            rw [extract_txt, show ts[i].at_ + ts[i].out.length - ts[i].at_ = ts[i].out.length by omega, htak]
          have hpos := good_out (HG.out ts[i] (List.getElem_mem hi1))
          clear htak hrest HS
          generalize ts[i] = t at *
          obtain ⟨tk, tt, ta⟩ := t
          simp only at a0 a1 a2 a3 hk0 hend HREST HEXT hpos
          have HINJ : Hid (∀ k, k < ta → plc (lst s) k ≠ plc (lst s) ta) := fun k hk e => by
            have := plc_inj (l := lst s) (by rw [lst_size]; omega) (by rw [lst_size]; omega) e
            omega
          obtain ⟨pt, hpt⟩ : ∃ pt, plc (lst s) ta = pt := ⟨_, rfl⟩
          have HPT := hide hpt
          rw [hpt] at a2 a3 HINJ
          clear hpt
          obtain ⟨pan, qan⟩ := pt
          simp only at a2 a3
          obtain ⟨pa, hpa⟩ : ∃ pa : Int, (pan : Int) = pa := ⟨_, rfl⟩
          obtain ⟨qa, hqa⟩ : ∃ qa : Int, (qan : Int) = qa := ⟨_, rfl⟩
          rw [hpa] at a2
          rw [hqa] at a3
          have HPQ : Hid ((pan : Int) = pa ∧ (qan : Int) = qa) := ⟨hpa, hqa⟩
          clear hpa hqa
          have ha2k : (ta : Int) ≤ 2000 := by omega
          have HA := hide (And.intro a0 (And.intro a1 (And.intro a2 a3)))
          clear a0 a1 a2 a3
          go_wp2_with fail
          obtain ⟨wO, hwO⟩ : ∃ x, x = wr := ⟨_, rfl⟩
          subst hwO
          go_loopw [8] (fun v8 wr => ∃ k : Nat, v8 = .int .i64 (k : Int) ∧ k ≤ ta ∧ Hid (Below W6.heap.size W6 wr)) (fun v8 _ => ta - (intOf v8).toNat)
          case atStart => exact ⟨k0, rfl, hk0, HB⟩
          case round =>
            obtain ⟨k, rfl, hkt, HB2⟩ := hrel
            clear HB
            have hgw : g < wr.heap.size := Nat.lt_of_lt_of_le hgW HB2.out.size
            have d2 := (HB2.out.cell (p := ⟨g, i * 4 + 2, none⟩) hgW).trans HA.out.2.2.1
            have d3 := (HB2.out.cell (p := ⟨g, i * 4 + 3, none⟩) hgW).trans HA.out.2.2.2
            rcases Nat.lt_or_ge k ta with hkl | hkg
            · have hks : (k : Int) < (s.size : Int) := by omega
              have CP := hide (CPK.out k)
              have HNE := HINJ.out k hkl
              generalize plc (lst s) k = pk at *
              obtain ⟨pkn, qkn⟩ := pk
              simp only at CP
              have hbne : (pkn : Int) = pa → ¬ (qkn : Int) = qa := by
                rw [← HPQ.out.1, ← HPQ.out.2]
                intro h1 h2
                exact HNE (by rw [show pkn = pan by omega, show qkn = qan by omega])
              clear HNE
              generalize (pkn : Int) = pk at *
              generalize (qkn : Int) = qk at *
              go_upto_region 12 with fail
              have BD := hide ((brefl wr).drew)
              refine wp_region_held_drew (S := (fun w' => w'.cell? ⟨g, i * 4 + 2, none⟩ = some (.int .i64 pa) ∧ w'.cell? ⟨g, i * 4 + 3, none⟩ = some (.int .i64 qa))) (by kernel_rfl) ⟨(BD.out.cell (p := ⟨g, i * 4 + 2, none⟩) hgw).trans d2, (BD.out.cell (p := ⟨g, i * 4 + 3, none⟩) hgw).trans d3⟩ (fun hHeld => ?_)
              have HB5 := hide (bthen HB2.out BD.out)
              have hgw5 : g < wr.drew.heap.size := Nat.lt_of_lt_of_le hgw BD.out.size
              clear BD d2 d3
              generalize wr.drew = W5 at *
              refine wpAnyH_take (i := 0) (v := .int .i64 (k : Int)) rfl (by kernel_rfl) (by kernel_rfl) (by kernel_rfl) (fun _ _ _ h => h) (Or.inl ⟨by rfl, fun w hSw => by dsimp only at hSw; go_simp⟩) hHeld ?_
              simp only [Act.put, List.getElem_toArray, List.getElem_cons_zero, List.setIfInBounds_toArray, List.set_cons_zero, List.set_cons_succ]
              refine wpAnyH_take (i := 1) (v := .string s) rfl (by kernel_rfl) (by kernel_rfl) (by kernel_rfl) (fun _ _ _ h => h) (Or.inl ⟨by rfl, fun w hSw => by dsimp only at hSw; go_simp⟩) hHeld ?_
              simp only [Act.put, List.getElem_toArray, List.getElem_cons_zero, List.getElem_cons_succ, List.setIfInBounds_toArray, List.set_cons_zero, List.set_cons_succ]
              refine wpAnyH_take (i := 2) (v := .int .i64 (s.size : Int)) rfl (by kernel_rfl) (by kernel_rfl) (by kernel_rfl) (fun _ _ _ h => h) (Or.inl ⟨by rfl, fun w hSw => by dsimp only at hSw; go_simp⟩) hHeld ?_
              simp only [Act.put, List.getElem_toArray, List.getElem_cons_zero, List.getElem_cons_succ, List.setIfInBounds_toArray, List.set_cons_zero, List.set_cons_succ]
              refine wpAnyH_take (i := 3) (v := .bool true) rfl (by kernel_rfl) (by kernel_rfl) (by kernel_rfl) (fun _ _ _ h => h) (Or.inl ⟨by rfl, fun w hSw => by dsimp only at hSw; go_simp⟩) hHeld ?_
              simp only [Act.put, List.getElem_toArray, List.getElem_cons_zero, List.getElem_cons_succ, List.setIfInBounds_toArray, List.set_cons_zero, List.set_cons_succ]
              refine wpAnyH_take (i := 4) (v := .bool true) rfl (by kernel_rfl) (by kernel_rfl) (by kernel_rfl) (fun _ _ _ h => h) (Or.inl ⟨by rfl, fun w hSw => by dsimp only at hSw; go_simp⟩) hHeld ?_
              simp only [Act.put, List.getElem_toArray, List.getElem_cons_zero, List.getElem_cons_succ, List.setIfInBounds_toArray, List.set_cons_zero, List.set_cons_succ]
              refine wpAnyH_take (i := 5) (v := .string s) rfl (by kernel_rfl) (by kernel_rfl) (by kernel_rfl) (fun _ _ _ h => h) (Or.inl ⟨by rfl, fun w hSw => by dsimp only at hSw; go_simp⟩) hHeld ?_
              simp only [Act.put, List.getElem_toArray, List.getElem_cons_zero, List.getElem_cons_succ, List.setIfInBounds_toArray, List.set_cons_zero, List.set_cons_succ]
              refine wpAnyH_take (i := 6) (v := .int .i64 (k : Int)) rfl (by kernel_rfl) (by kernel_rfl) (by kernel_rfl) (fun _ _ _ h => h) (Or.inl ⟨by rfl, fun w hSw => by dsimp only at hSw; go_simp⟩) hHeld ?_
              simp only [Act.put, List.getElem_toArray, List.getElem_cons_zero, List.getElem_cons_succ, List.setIfInBounds_toArray, List.set_cons_zero, List.set_cons_succ]
              refine wpAnyH_take (i := 8) (v := .slice (some ⟨g, 0, none⟩) N cp) rfl (by kernel_rfl) (by kernel_rfl) (by kernel_rfl) (fun _ _ _ h => h) (Or.inl ⟨by rfl, fun w hSw => by dsimp only at hSw; go_simp⟩) hHeld ?_
              simp only [Act.put, List.getElem_toArray, List.getElem_cons_zero, List.getElem_cons_succ, List.setIfInBounds_toArray, List.set_cons_zero, List.set_cons_succ]
              refine wpAnyH_take (i := 9) (v := .int .i64 (i : Int)) rfl (by kernel_rfl) (by kernel_rfl) (by kernel_rfl) (fun _ _ _ h => h) (Or.inl ⟨by rfl, fun w hSw => by dsimp only at hSw; go_simp⟩) hHeld ?_
              simp only [Act.put, List.getElem_toArray, List.getElem_cons_zero, List.getElem_cons_succ, List.setIfInBounds_toArray, List.set_cons_zero, List.set_cons_succ]
              refine wpAnyH_take (i := 10) (v := .pointer (some ⟨g, i * 4, none⟩)) rfl (by kernel_rfl) (by kernel_rfl) (by kernel_rfl) (fun _ _ _ h => h) (Or.inl ⟨by rfl, fun w hSw => by dsimp only at hSw; go_simp⟩) hHeld ?_
              simp only [Act.put, List.getElem_toArray, List.getElem_cons_zero, List.getElem_cons_succ, List.setIfInBounds_toArray, List.set_cons_zero, List.set_cons_succ]
              refine wpAnyH_take (i := 11) (v := .pointer (some ⟨g, i * 4 + 2, none⟩)) rfl (by kernel_rfl) (by kernel_rfl) (by kernel_rfl) (fun _ _ _ h => h) (Or.inl ⟨by rfl, fun w hSw => by dsimp only at hSw; go_simp⟩) hHeld ?_
              simp only [Act.put, List.getElem_toArray, List.getElem_cons_zero, List.getElem_cons_succ, List.setIfInBounds_toArray, List.set_cons_zero, List.set_cons_succ]
              refine wpAnyH_take (i := 12) (v := .agg #[.int .i64 pa, .int .i64 qa]) rfl (by kernel_rfl) (by kernel_rfl) (by kernel_rfl) (fun _ _ _ h => h) (Or.inl ⟨by rfl, fun w hSw => by dsimp only at hSw; go_simp⟩) hHeld ?_
              simp only [Act.put, List.getElem_toArray, List.getElem_cons_zero, List.getElem_cons_succ, List.setIfInBounds_toArray, List.set_cons_zero, List.set_cons_succ]
              refine wpAnyH_ready (rs := [7]) (by kernel_rfl) (by simp) ?_
              refine AllReadyH.cons rfl (fun K hK => ?_) AllReadyH.nil
              go_simp
              go_wp2_with (refine (CP.out _).mono ?_; rintro e w6 ⟨rfl, b6⟩; have HB6 := hide (bthen HB5.out b6))
              refine hK.out _ _ ⟨(b6.cell (p := ⟨g, i * 4 + 2, none⟩) hgw5).trans hHeld.1, (b6.cell (p := ⟨g, i * 4 + 3, none⟩) hgw5).trans hHeld.2⟩ (fun hHeld => ?_)
              clear hK K
              try simp only [Act.put, List.getElem_toArray, List.getElem_cons_zero, List.getElem_cons_succ, List.setIfInBounds_toArray, List.set_cons_zero, List.set_cons_succ]
              clear b6 HB5 hgw5
              refine wpAnyH_take (i := 13) (v := .bool true) rfl (by kernel_rfl) (by kernel_rfl) (by kernel_rfl) (fun _ _ _ h => h) (Or.inl ⟨by rfl, fun w hSw => by dsimp only at hSw; (go_simp; try exact hbne)⟩) hHeld ?_
              simp only [Act.put, List.getElem_toArray, List.getElem_cons_zero, List.getElem_cons_succ, List.setIfInBounds_toArray, List.set_cons_zero, List.set_cons_succ]
              refine wpAnyH_take (i := 14) (v := .bool true) rfl (by kernel_rfl) (by kernel_rfl) (by kernel_rfl) (fun _ _ _ h => h) (Or.inl ⟨by rfl, fun w hSw => by dsimp only at hSw; go_simp⟩) hHeld ?_
              simp only [Act.put, List.getElem_toArray, List.getElem_cons_zero, List.getElem_cons_succ, List.setIfInBounds_toArray, List.set_cons_zero, List.set_cons_succ]
              refine wpAnyH_done (by kernel_rfl) ?_ _
              clear hHeld CP
              go_wp2_with fail
              exact ⟨⟨k + 1, by go_num, by omega, HB6⟩, by simp [intOf]; omega⟩
            · obtain rfl : k = ta := by omega
              have hks : (k : Int) < (s.size : Int) := by omega
              have CP := hide (CPK.out k)
              rw [HPT.out] at CP
              simp only at CP
              rw [HPQ.out.1, HPQ.out.2] at CP
              have e1 : (pa == pa) = true := by simp
              have e2 : (qa == qa) = true := by simp
              go_upto_region 12 with fail
              have BD := hide ((brefl wr).drew)
              refine wp_region_held_drew (S := (fun w' => w'.cell? ⟨g, i * 4 + 2, none⟩ = some (.int .i64 pa) ∧ w'.cell? ⟨g, i * 4 + 3, none⟩ = some (.int .i64 qa))) (by kernel_rfl) ⟨(BD.out.cell (p := ⟨g, i * 4 + 2, none⟩) hgw).trans d2, (BD.out.cell (p := ⟨g, i * 4 + 3, none⟩) hgw).trans d3⟩ (fun hHeld => ?_)
              have HB5 := hide (bthen HB2.out BD.out)
              have hgw5 : g < wr.drew.heap.size := Nat.lt_of_lt_of_le hgw BD.out.size
              clear BD d2 d3
              generalize wr.drew = W5 at *
              refine wpAnyH_take (i := 0) (v := .int .i64 (k : Int)) rfl (by kernel_rfl) (by kernel_rfl) (by kernel_rfl) (fun _ _ _ h => h) (Or.inl ⟨by rfl, fun w hSw => by dsimp only at hSw; go_simp⟩) hHeld ?_
              simp only [Act.put, List.getElem_toArray, List.getElem_cons_zero, List.setIfInBounds_toArray, List.set_cons_zero, List.set_cons_succ]
              refine wpAnyH_take (i := 1) (v := .string s) rfl (by kernel_rfl) (by kernel_rfl) (by kernel_rfl) (fun _ _ _ h => h) (Or.inl ⟨by rfl, fun w hSw => by dsimp only at hSw; go_simp⟩) hHeld ?_
              simp only [Act.put, List.getElem_toArray, List.getElem_cons_zero, List.getElem_cons_succ, List.setIfInBounds_toArray, List.set_cons_zero, List.set_cons_succ]
              refine wpAnyH_take (i := 2) (v := .int .i64 (s.size : Int)) rfl (by kernel_rfl) (by kernel_rfl) (by kernel_rfl) (fun _ _ _ h => h) (Or.inl ⟨by rfl, fun w hSw => by dsimp only at hSw; go_simp⟩) hHeld ?_
              simp only [Act.put, List.getElem_toArray, List.getElem_cons_zero, List.getElem_cons_succ, List.setIfInBounds_toArray, List.set_cons_zero, List.set_cons_succ]
              refine wpAnyH_take (i := 3) (v := .bool true) rfl (by kernel_rfl) (by kernel_rfl) (by kernel_rfl) (fun _ _ _ h => h) (Or.inl ⟨by rfl, fun w hSw => by dsimp only at hSw; go_simp⟩) hHeld ?_
              simp only [Act.put, List.getElem_toArray, List.getElem_cons_zero, List.getElem_cons_succ, List.setIfInBounds_toArray, List.set_cons_zero, List.set_cons_succ]
              refine wpAnyH_take (i := 4) (v := .bool true) rfl (by kernel_rfl) (by kernel_rfl) (by kernel_rfl) (fun _ _ _ h => h) (Or.inl ⟨by rfl, fun w hSw => by dsimp only at hSw; go_simp⟩) hHeld ?_
              simp only [Act.put, List.getElem_toArray, List.getElem_cons_zero, List.getElem_cons_succ, List.setIfInBounds_toArray, List.set_cons_zero, List.set_cons_succ]
              refine wpAnyH_take (i := 5) (v := .string s) rfl (by kernel_rfl) (by kernel_rfl) (by kernel_rfl) (fun _ _ _ h => h) (Or.inl ⟨by rfl, fun w hSw => by dsimp only at hSw; go_simp⟩) hHeld ?_
              simp only [Act.put, List.getElem_toArray, List.getElem_cons_zero, List.getElem_cons_succ, List.setIfInBounds_toArray, List.set_cons_zero, List.set_cons_succ]
              refine wpAnyH_take (i := 6) (v := .int .i64 (k : Int)) rfl (by kernel_rfl) (by kernel_rfl) (by kernel_rfl) (fun _ _ _ h => h) (Or.inl ⟨by rfl, fun w hSw => by dsimp only at hSw; go_simp⟩) hHeld ?_
              simp only [Act.put, List.getElem_toArray, List.getElem_cons_zero, List.getElem_cons_succ, List.setIfInBounds_toArray, List.set_cons_zero, List.set_cons_succ]
              refine wpAnyH_take (i := 8) (v := .slice (some ⟨g, 0, none⟩) N cp) rfl (by kernel_rfl) (by kernel_rfl) (by kernel_rfl) (fun _ _ _ h => h) (Or.inl ⟨by rfl, fun w hSw => by dsimp only at hSw; go_simp⟩) hHeld ?_
              simp only [Act.put, List.getElem_toArray, List.getElem_cons_zero, List.getElem_cons_succ, List.setIfInBounds_toArray, List.set_cons_zero, List.set_cons_succ]
              refine wpAnyH_take (i := 9) (v := .int .i64 (i : Int)) rfl (by kernel_rfl) (by kernel_rfl) (by kernel_rfl) (fun _ _ _ h => h) (Or.inl ⟨by rfl, fun w hSw => by dsimp only at hSw; go_simp⟩) hHeld ?_
              simp only [Act.put, List.getElem_toArray, List.getElem_cons_zero, List.getElem_cons_succ, List.setIfInBounds_toArray, List.set_cons_zero, List.set_cons_succ]
              refine wpAnyH_take (i := 10) (v := .pointer (some ⟨g, i * 4, none⟩)) rfl (by kernel_rfl) (by kernel_rfl) (by kernel_rfl) (fun _ _ _ h => h) (Or.inl ⟨by rfl, fun w hSw => by dsimp only at hSw; go_simp⟩) hHeld ?_
              simp only [Act.put, List.getElem_toArray, List.getElem_cons_zero, List.getElem_cons_succ, List.setIfInBounds_toArray, List.set_cons_zero, List.set_cons_succ]
              refine wpAnyH_take (i := 11) (v := .pointer (some ⟨g, i * 4 + 2, none⟩)) rfl (by kernel_rfl) (by kernel_rfl) (by kernel_rfl) (fun _ _ _ h => h) (Or.inl ⟨by rfl, fun w hSw => by dsimp only at hSw; go_simp⟩) hHeld ?_
              simp only [Act.put, List.getElem_toArray, List.getElem_cons_zero, List.getElem_cons_succ, List.setIfInBounds_toArray, List.set_cons_zero, List.set_cons_succ]
              refine wpAnyH_take (i := 12) (v := .agg #[.int .i64 pa, .int .i64 qa]) rfl (by kernel_rfl) (by kernel_rfl) (by kernel_rfl) (fun _ _ _ h => h) (Or.inl ⟨by rfl, fun w hSw => by dsimp only at hSw; go_simp⟩) hHeld ?_
              simp only [Act.put, List.getElem_toArray, List.getElem_cons_zero, List.getElem_cons_succ, List.setIfInBounds_toArray, List.set_cons_zero, List.set_cons_succ]
              refine wpAnyH_ready (rs := [7]) (by kernel_rfl) (by simp) ?_
              refine AllReadyH.cons rfl (fun K hK => ?_) AllReadyH.nil
              go_simp
              go_wp2_with (refine (CP.out _).mono ?_; rintro e w6 ⟨rfl, b6⟩; have HB6 := hide (bthen HB5.out b6))
              refine hK.out _ _ ⟨(b6.cell (p := ⟨g, i * 4 + 2, none⟩) hgw5).trans hHeld.1, (b6.cell (p := ⟨g, i * 4 + 3, none⟩) hgw5).trans hHeld.2⟩ (fun hHeld => ?_)
              clear hK K
              try simp only [Act.put, List.getElem_toArray, List.getElem_cons_zero, List.getElem_cons_succ, List.setIfInBounds_toArray, List.set_cons_zero, List.set_cons_succ]
              clear b6 HB5 hgw5
              refine wpAnyH_take (i := 13) (v := .bool false) rfl (by kernel_rfl) (by kernel_rfl) (by kernel_rfl) (fun _ _ _ h => h) (Or.inl ⟨by rfl, fun w hSw => by dsimp only at hSw; go_simp⟩) hHeld ?_
              simp only [Act.put, List.getElem_toArray, List.getElem_cons_zero, List.getElem_cons_succ, List.setIfInBounds_toArray, List.set_cons_zero, List.set_cons_succ]
              refine wpAnyH_take (i := 14) (v := .bool false) rfl (by kernel_rfl) (by kernel_rfl) (by kernel_rfl) (fun _ _ _ h => h) (Or.inl ⟨by rfl, fun w hSw => by dsimp only at hSw; go_simp⟩) hHeld ?_
              simp only [Act.put, List.getElem_toArray, List.getElem_cons_zero, List.getElem_cons_succ, List.setIfInBounds_toArray, List.set_cons_zero, List.set_cons_succ]
              refine wpAnyH_done (by kernel_rfl) ?_ _
              clear hHeld CP
              clear e1 e2
              have c0 := (HB6.out.cell (p := ⟨g, i * 4, none⟩) hgW).trans HA.out.1
              have c1 := (HB6.out.cell (p := ⟨g, i * 4 + 1, none⟩) hgW).trans HA.out.2.1
              have HGW := hide hgW
              by_cases hk1 : tk = 1
              · subst hk1
                have HX : Hid (txt (Tok.out ⟨1, tt, k⟩) = ⟨#[34]⟩ ++ txt tt ++ ⟨#[34]⟩) := wr_text
                have HXZ : Hid ((txt (Tok.out ⟨1, tt, k⟩)).size = (Tok.out ⟨1, tt, k⟩).length) := txt_size _
                have hov1 : ¬ 9223372036854775807 < 1 + (txt tt).size := by have h := HXZ.out; rw [HX.out] at h; simp only [ByteArray.size_append, one_size] at h; omega
                have hov2 : ¬ 9223372036854775807 < 1 + (txt tt).size + 1 := by have h := HXZ.out; rw [HX.out] at h; simp only [ByteArray.size_append, one_size] at h; omega
                go_upto_region 17 with fail
                rw [← HX.out]
                clear hov1 hov2 c0 c1 HX
                obtain ⟨X, hX⟩ : ∃ X, txt (Tok.out ⟨1, tt, k⟩) = X := ⟨_, rfl⟩
                rw [hX] at HXZ HEXT ⊢
                rw [← HXZ.out] at HEXT HREST hend hpos
                clear hX HXZ
                have hle : ¬ (s.size : Int) - (k : Int) < (X.size : Int) := by omega
                have hXE : s.extract k (k + X.size) = X := HEXT.out
                have hXX : (X == X) = true := (Go.MapKept.bytes_beq X X).2 rfl
                have hto : ((k : Int) + (X.size : Int)).toNat = k + X.size := by omega
                have hkx : (k : Int) + (X.size : Int) ≤ (s.size : Int) := by omega
                go_wp2_with fail
                exact ⟨⟨k + X.size, i + 1, by go_num, by go_num, by omega, by omega, HREST, HB6⟩, by simp [intOf]; omega⟩
              · have HX : Hid (txt (Tok.out ⟨tk, tt, k⟩) = txt tt) := wr_plain hk1
                have HXZ : Hid ((txt (Tok.out ⟨tk, tt, k⟩)).size = (Tok.out ⟨tk, tt, k⟩).length) := txt_size _
                have hkb : ((tk : Int) == 1) = false := by rw [beq_eq_false_iff_ne]; omega
                have hk1' : ¬ (tk : Int) = 1 := by omega
                go_upto_region 17 with fail
                rw [← HX.out]
                clear c0 c1 HX hkb hk1 hk1'
                obtain ⟨X, hX⟩ : ∃ X, txt (Tok.out ⟨tk, tt, k⟩) = X := ⟨_, rfl⟩
                rw [hX] at HXZ HEXT ⊢
                rw [← HXZ.out] at HEXT HREST hend hpos
                clear hX HXZ
                have hle : ¬ (s.size : Int) - (k : Int) < (X.size : Int) := by omega
                have hXE : s.extract k (k + X.size) = X := HEXT.out
                have hXX : (X == X) = true := (Go.MapKept.bytes_beq X X).2 rfl
                have hto : ((k : Int) + (X.size : Int)).toNat = k + X.size := by omega
                have hkx : (k : Int) + (X.size : Int) ≤ (s.size : Int) := by omega
                go_wp2_with fail
                exact ⟨⟨k + X.size, i + 1, by go_num, by go_num, by omega, by omega, HREST, HB6⟩, by simp [intOf]; omega⟩
        · have h1 : ¬ (i : Int) < (N : Int) := by omega
          go_wp2_with fail
          refine (CL.out _).mono ?_
          rintro e wz ⟨rfl, hbz⟩
          have BZ := hide (bthen (bthen B5.out HB.out) hbz)
          clear hbz
          go_wp2_with fail
          go_ret
          exact ⟨rfl, BZ.out⟩
    · have hc' : (c != 0) = true := by rw [bne_iff_ne]; exact hc
      obtain ⟨ao, cp, rfl, _⟩ := Tv.slot_row (row_tv hr)
      clear hr R1 A1 hi
      go_wp2_with fail
      refine (CL.out _).mono ?_
      rintro e wz ⟨rfl, hbz⟩
      have BZ := hide (bthen B5.out hbz)
      clear hbz
      go_wp2_with fail
      go_ret
      exact ⟨rfl, BZ.out⟩
end Go.Proofs.Ytdkfamlnmjhcfaa
