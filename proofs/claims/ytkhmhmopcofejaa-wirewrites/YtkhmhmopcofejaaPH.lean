import Derived.Test.YtkhmhmopcofejaaPG
/- The contract of wire's attrBytes. -/
namespace Go.Proofs.Ytkhmhmopcofejaa
open Go.RowKit Go.Sort

theorem put_new (x : Int) (h0 : 0 ≤ x) (h1 : x ≤ 4294967295) (many : Nat) (hm0 : 0 < many) (hm : many ≤ 4) (w : World) : Calls Try.prog 50 #[.slice none 0 0, .int .i64 x, .int .i64 many] w (News w (num x.toNat many)) := by
  obtain ⟨n, rfl⟩ : ∃ n : Nat, x = (n : Int) := ⟨x.toNat, by omega⟩
  exact (put_is w.heap.size (.slice none 0 0) [] n many (by omega) hm0 hm (by simp) w (Nat.le_refl _) (.inl (own_nil w _))).mono fun e w' h => news_of h
theorem nums_new (ao : Option Addr) (ca : Nat) (l : List Int) (many : Nat) (hm0 : 0 < many) (hm : many ≤ 4) (hr : ∀ x ∈ l, 0 ≤ x ∧ x ≤ 4294967295) (hl : l.length ≤ 1000) (w : World) (hA : Is.slot w ao l) : Calls Try.prog 54 #[.slice none 0 0, .slice ao l.length ca, .int .i64 many] w (News w (rowN many l)) :=
  (numberBytes_is w (.slice none 0 0) [] ao ca l many hm0 hm hr hl (by simp) w (brefl w) (own_nil w _) hA).mono fun e w' h => news_of h
theorem apt_of {w0 wx w1 : World} {v v' : Value} {L d : List UInt8} {o : Option Addr} {c : Nat} (hO : Own wx w0.heap.size v L) (h : Own w1 wx.heap.size v' d) (hv : v' = .slice o d.length c) : Apt w1 o v.ownBlock := by
  subst hv
  intro ad e
  subst e
  have h1 := own_lt (.inl h) ad.block rfl
  refine ⟨h1.2, fun e => ?_⟩
  have := (own_lt (.inl hO) _ e.symm).2
  omega
/-- One attribute with new bytes. -/
theorem putAttr_new {w0 wx w1 : World} {v v' : Value} {L d : List UInt8} (hb : Below w0.heap.size w0 wx) (hO : Own wx w0.heap.size v L) (h : Own w1 wx.heap.size v' d) (hb1 : Below wx.heap.size wx w1) (f k : Nat) (hf : f < 256) (hk : k < 256) (hx : L.length ≤ 80000) (hd : d.length < 256) :
    ∃ o c, v' = .slice o d.length c ∧ Calls Try.prog 51 #[v, .int .i64 f, .int .i64 k, .slice o d.length c] w1 fun e w2 => ∃ v2, e = .returned v2 ∧ Own w2 w0.heap.size v2 (L ++ one (f, k, d)) ∧ Below w0.heap.size w0 w2 := by
  obtain ⟨o, c, hv, h1, h2, _⟩ := own_at h
  refine ⟨o, c, hv, ?_⟩
  have hO1 := own_below hO hb1
  refine (putAttr_is w0.heap.size v L f k o c d hf hk hx hd w1 (Nat.le_trans hb.size hb1.size) hO1 h1 h2 (apt_of hO h hv)).mono ?_
  rintro e w2 ⟨v2, rfl, o2, g2, _⟩
  exact ⟨v2, rfl, o2, grown_from (bthen hb hb1) (.inl hO1) g2⟩
set_option maxHeartbeats 4000000 in
set_option maxRecDepth 100000 in
theorem attrBytes_is (a : At) (po co ko : Option Addr) (cp cc ck : Nat) (hf : At.fits a) (w : World) (hA : At.lies w a po co ko) :
    Calls Try.prog 27 #[.agg #[.int .i64 a.pf, .int .i64 a.md, .int .i64 a.og, .slice po a.path.length cp, .slice co a.comms.length cc, .int .i64 a.fr, .slice ko a.cl.length ck]] w (News w a.bytes) := by
  have HB := hide (balloc (brefl w) (.cells #[.int .i64 a.pf, .int .i64 a.md, .int .i64 a.og, .slice po a.path.length cp, .slice co a.comms.length cc, .int .i64 a.fr, .slice ko a.cl.length ck] 26))
  have N0 := hide (heap_new w #[.int .i64 a.pf, .int .i64 a.md, .int .i64 a.og, .slice po a.path.length cp, .slice co a.comms.length cc, .int .i64 a.fr, .slice ko a.cl.length ck] 26)
  have HL := hide (At.lies_below hA HB.out)
  have HF := hide hf
  have HLEN := hide (bytes_parts hf)
  have hlp := hf.lp
  have hlc := hf.lc
  have hlk := hf.lk
  have HLD : Hid ((pathB a.path).length < 256 ∧ (rowN 2 (flat a.comms)).length < 256 ∧ (rowN 4 a.cl).length < 256) := by
    have h1 := pathB_length a.path
    refine ⟨by omega, ?_, ?_⟩
    · rw [rows_length, flat_length]; omega
    · rw [rows_length]; omega
  have HE := hide (At.bytes_eq a)
  clear hA hf
  go_enter Try.func27, Try.ntmps27
  generalize a.bytes = ab at *
  go_wp2_with fail
  have hsz := HB.out.size
  generalize w.alloc (.cells #[.int .i64 a.pf, .int .i64 a.md, .int .i64 a.og, .slice po a.path.length cp, .slice co a.comms.length cc, .int .i64 a.fr, .slice ko a.cl.length ck] 26) = W at *
  obtain ⟨p, hp⟩ : ∃ p, w.heap.size = p := ⟨_, rfl⟩
  rw [hp] at N0
  have HP := hide hp
  have PL := hide (heap_lt N0.out)
  have BW := hide (brefl W)
  have OB := hide (own_nil W W.heap.size)
  rw [hp] at hsz
  rw [hp]
  clear hp
  obtain ⟨c0, c1, c2, c3, c4, c5, c6⟩ := seven_cells ((BW.out.block p PL.out).trans N0.out)
  have CV : Hid (Calls _ _ _ W (News W (num a.og.toNat 1))) := put_new a.og HF.out.og.1 (by have := HF.out.og.2; omega) 1 (by decide) (by decide) W
  go_wp2_with fail
  refine CV.out.mono ?_
  rintro e x1a ⟨vv, rfl, ov, bv⟩
  obtain ⟨o1, k1, rfl, ca⟩ := putAttr_new BW.out OB.out ov bv 64 1 (by decide) (by decide) (by simp) (by rw [num_length]; decide)
  have CA := hide ca
  have BX := hide (bthen BW.out bv)
  clear ca ov bv CV c0 c1 c2 c3 c4 c5 c6
  obtain ⟨c0, c1, c2, c3, c4, c5, c6⟩ := seven_cells ((BX.out.block p PL.out).trans N0.out)
  go_wp2_with fail
  refine CA.out.mono ?_
  rintro e x1b ⟨v1, rfl, o2, b2⟩
  have OB' : Hid (Own x1b W.heap.size v1 (one (64, 1, num a.og.toNat 1))) := o2
  have BW' := hide b2
  clear o2 b2 CA BX OB BW c0 c1 c2 c3 c4 c5 c6
  have OB := OB'
  have BW := BW'
  clear OB' BW'
  obtain ⟨c0, c1, c2, c3, c4, c5, c6⟩ := seven_cells ((BW.out.block p PL.out).trans N0.out)
  have CV : Hid (Calls _ _ _ x1b (News x1b (pathB a.path))) := pathBytes_is po cp a.path (fun x hx => by have := HF.out.path x hx; omega) (by omega) x1b (Is.slot_below HL.out.1 BW.out)
  go_wp2_with fail
  refine CV.out.mono ?_
  rintro e x2a ⟨vv, rfl, ov, bv⟩
  obtain ⟨o2, k2, rfl, ca⟩ := putAttr_new BW.out OB.out ov bv 64 2 (by decide) (by decide) (by have := HLEN.out.1; omega) HLD.out.1
  have CA := hide ca
  have BX := hide (bthen BW.out bv)
  clear ca ov bv CV c0 c1 c2 c3 c4 c5 c6
  obtain ⟨c0, c1, c2, c3, c4, c5, c6⟩ := seven_cells ((BX.out.block p PL.out).trans N0.out)
  go_wp2_with fail
  refine CA.out.mono ?_
  rintro e x2b ⟨v2, rfl, o2, b2⟩
  have OB' : Hid (Own x2b W.heap.size v2 (one (64, 1, num a.og.toNat 1) ++ one (64, 2, pathB a.path))) := o2
  have BW' := hide b2
  clear o2 b2 CA BX OB BW c0 c1 c2 c3 c4 c5 c6
  have OB := OB'
  have BW := BW'
  clear OB' BW'
  obtain ⟨c0, c1, c2, c3, c4, c5, c6⟩ := seven_cells ((BW.out.block p PL.out).trans N0.out)
  go_upto_if 15 with fail
  go_cut [3] from 4 (fun v3 wx => Hid (Own wx W.heap.size v3 (one (64, 1, num a.og.toNat 1) ++ one (64, 2, pathB a.path) ++ optB (a.md ≠ 0) (128, 4, num a.md.toNat 4))) ∧ Hid (Below W.heap.size W wx))
  clear c0 c1 c2 c3 c4 c5 c6
  case first =>
    obtain ⟨c0, c1, c2, c3, c4, c5, c6⟩ := seven_cells ((BW.out.block p PL.out).trans N0.out)
    by_cases hc : a.md = 0
    · have hc' : (a.md != 0) = false := by simpa using hc
      have OB' : Hid (Own x2b W.heap.size v2 (one (64, 1, num a.og.toNat 1) ++ one (64, 2, pathB a.path) ++ optB (a.md ≠ 0) (128, 4, num a.md.toNat 4))) := by rw [optB_no (c := a.md ≠ 0) (by simp [hc]), List.append_nil]; exact OB.out
      clear hc
      go_wp2_with fail
      go_meet
      exact ⟨OB', BW⟩
    · have hc' : (a.md != 0) = true := by simpa using hc
      have HY := hide (optB_yes (c := a.md ≠ 0) (x := (128, 4, num a.md.toNat 4)) (by simpa using hc))
      clear hc c0 c1 c2 c3 c4 c5 c6
      obtain ⟨c0, c1, c2, c3, c4, c5, c6⟩ := seven_cells ((BW.out.block p PL.out).trans N0.out)
      have CV : Hid (Calls _ _ _ x2b (News x2b (num a.md.toNat 4))) := put_new a.md HF.out.md.1 (by have := HF.out.md.2; omega) 4 (by decide) (by decide) x2b
      go_wp2_with fail
      refine CV.out.mono ?_
      rintro e x3a ⟨vv, rfl, ov, bv⟩
      obtain ⟨o3, k3, rfl, ca⟩ := putAttr_new BW.out OB.out ov bv 128 4 (by decide) (by decide) (by have := HLEN.out.2.2.1; omega) (by rw [num_length]; decide)
      have CA := hide ca
      have BX := hide (bthen BW.out bv)
      clear ca ov bv CV c0 c1 c2 c3 c4 c5 c6
      obtain ⟨c0, c1, c2, c3, c4, c5, c6⟩ := seven_cells ((BX.out.block p PL.out).trans N0.out)
      go_wp2_with fail
      refine CA.out.mono ?_
      rintro e x3b ⟨v3, rfl, o2, b2⟩
      have OB' : Hid (Own x3b W.heap.size v3 ((one (64, 1, num a.og.toNat 1) ++ one (64, 2, pathB a.path)) ++ one (128, 4, num a.md.toNat 4))) := o2
      have BW' := hide b2
      clear o2 b2 CA BX OB BW c0 c1 c2 c3 c4 c5 c6
      have OB := OB'
      have BW := BW'
      clear OB' BW'
      rw [← HY.out] at OB
      go_wp2_with fail
      go_meet
      exact ⟨OB, BW⟩
  case rest =>
  clear OB BW
  obtain ⟨OB, BW⟩ := hcut
  skip
  obtain ⟨c0, c1, c2, c3, c4, c5, c6⟩ := seven_cells ((BW.out.block p PL.out).trans N0.out)
  have CV : Hid (Calls _ _ _ wc (News wc (num a.pf.toNat 4))) := put_new a.pf HF.out.pf.1 (by have := HF.out.pf.2; omega) 4 (by decide) (by decide) wc
  go_wp2_with fail
  refine CV.out.mono ?_
  rintro e x4a ⟨vv, rfl, ov, bv⟩
  obtain ⟨o4, k4, rfl, ca⟩ := putAttr_new BW.out OB.out ov bv 64 5 (by decide) (by decide) (by have := HLEN.out.2.2.2.1; omega) (by rw [num_length]; decide)
  have CA := hide ca
  have BX := hide (bthen BW.out bv)
  clear ca ov bv CV c0 c1 c2 c3 c4 c5 c6
  obtain ⟨c0, c1, c2, c3, c4, c5, c6⟩ := seven_cells ((BX.out.block p PL.out).trans N0.out)
  go_wp2_with fail
  refine CA.out.mono ?_
  rintro e x4b ⟨v4, rfl, o2, b2⟩
  have OB' : Hid (Own x4b W.heap.size v4 (one (64, 1, num a.og.toNat 1) ++ one (64, 2, pathB a.path) ++ optB (a.md ≠ 0) (128, 4, num a.md.toNat 4) ++ one (64, 5, num a.pf.toNat 4))) := o2
  have BW' := hide b2
  clear o2 b2 CA BX OB BW c0 c1 c2 c3 c4 c5 c6
  have OB := OB'
  have BW := BW'
  clear OB' BW'
  obtain ⟨c0, c1, c2, c3, c4, c5, c6⟩ := seven_cells ((BW.out.block p PL.out).trans N0.out)
  go_upto_if 29 with fail
  go_cut [3] from 4 (fun v3 wx => Hid (Own wx W.heap.size v3 (one (64, 1, num a.og.toNat 1) ++ one (64, 2, pathB a.path) ++ optB (a.md ≠ 0) (128, 4, num a.md.toNat 4) ++ one (64, 5, num a.pf.toNat 4) ++ optB (a.comms ≠ []) (192, 8, rowN 2 (flat a.comms)))) ∧ Hid (Below W.heap.size W wx))
  clear c0 c1 c2 c3 c4 c5 c6
  case first =>
    obtain ⟨c0, c1, c2, c3, c4, c5, c6⟩ := seven_cells ((BW.out.block p PL.out).trans N0.out)
    by_cases hc : a.comms = []
    · have hc' : ¬ (0 : Int) < (a.comms.length : Int) := by simp [hc]
      have OB' : Hid (Own x4b W.heap.size v4 (one (64, 1, num a.og.toNat 1) ++ one (64, 2, pathB a.path) ++ optB (a.md ≠ 0) (128, 4, num a.md.toNat 4) ++ one (64, 5, num a.pf.toNat 4) ++ optB (a.comms ≠ []) (192, 8, rowN 2 (flat a.comms)))) := by rw [optB_no (c := a.comms ≠ []) (by simp [hc]), List.append_nil]; exact OB.out
      clear hc
      go_wp2_with fail
      go_meet
      exact ⟨OB', BW⟩
    · have hc' : (0 : Int) < (a.comms.length : Int) := by have := List.length_pos_iff.2 hc; omega
      have HY := hide (optB_yes (c := a.comms ≠ []) (x := (192, 8, rowN 2 (flat a.comms))) (by simpa using hc))
      clear hc c0 c1 c2 c3 c4 c5 c6
      obtain ⟨c0, c1, c2, c3, c4, c5, c6⟩ := seven_cells ((BW.out.block p PL.out).trans N0.out)
      have CV : Hid (Calls _ _ _ x4b (News x4b (rowN 2 (flat a.comms)))) := commBytes_is co cc a.comms (fun x hx => by have h1 := HF.out.comms x.1 (flat_has hx (.inl rfl)); have h2 := HF.out.comms x.2 (flat_has hx (.inr rfl)); omega) (by omega) x4b (Cm.Co.slot_below HL.out.2.1 BW.out)
      go_wp2_with fail
      refine CV.out.mono ?_
      rintro e x5a ⟨vv, rfl, ov, bv⟩
      obtain ⟨o5, k5, rfl, ca⟩ := putAttr_new BW.out OB.out ov bv 192 8 (by decide) (by decide) (by have := HLEN.out.2.2.2.2.1; omega) HLD.out.2.1
      have CA := hide ca
      have BX := hide (bthen BW.out bv)
      clear ca ov bv CV c0 c1 c2 c3 c4 c5 c6
      obtain ⟨c0, c1, c2, c3, c4, c5, c6⟩ := seven_cells ((BX.out.block p PL.out).trans N0.out)
      go_wp2_with fail
      refine CA.out.mono ?_
      rintro e x5b ⟨v5, rfl, o2, b2⟩
      have OB' : Hid (Own x5b W.heap.size v5 ((one (64, 1, num a.og.toNat 1) ++ one (64, 2, pathB a.path) ++ optB (a.md ≠ 0) (128, 4, num a.md.toNat 4) ++ one (64, 5, num a.pf.toNat 4)) ++ one (192, 8, rowN 2 (flat a.comms)))) := o2
      have BW' := hide b2
      clear o2 b2 CA BX OB BW c0 c1 c2 c3 c4 c5 c6
      have OB := OB'
      have BW := BW'
      clear OB' BW'
      rw [← HY.out] at OB
      go_wp2_with fail
      go_meet
      exact ⟨OB, BW⟩
  case rest =>
  clear OB BW
  obtain ⟨OB, BW⟩ := hcut
  skip
  obtain ⟨c0, c1, c2, c3, c4, c5, c6⟩ := seven_cells ((BW.out.block p PL.out).trans N0.out)
  go_upto_if 37 with fail
  go_cut [3] from 4 (fun v3 wx => Hid (Own wx W.heap.size v3 (one (64, 1, num a.og.toNat 1) ++ one (64, 2, pathB a.path) ++ optB (a.md ≠ 0) (128, 4, num a.md.toNat 4) ++ one (64, 5, num a.pf.toNat 4) ++ optB (a.comms ≠ []) (192, 8, rowN 2 (flat a.comms)) ++ optB (a.fr ≠ 0) (128, 9, num a.fr.toNat 4))) ∧ Hid (Below W.heap.size W wx))
  clear c0 c1 c2 c3 c4 c5 c6
  case first =>
    obtain ⟨c0, c1, c2, c3, c4, c5, c6⟩ := seven_cells ((BW.out.block p PL.out).trans N0.out)
    by_cases hc : a.fr = 0
    · have hc' : (a.fr != 0) = false := by simpa using hc
      have OB' : Hid (Own wc W.heap.size u3 (one (64, 1, num a.og.toNat 1) ++ one (64, 2, pathB a.path) ++ optB (a.md ≠ 0) (128, 4, num a.md.toNat 4) ++ one (64, 5, num a.pf.toNat 4) ++ optB (a.comms ≠ []) (192, 8, rowN 2 (flat a.comms)) ++ optB (a.fr ≠ 0) (128, 9, num a.fr.toNat 4))) := by rw [optB_no (c := a.fr ≠ 0) (by simp [hc]), List.append_nil]; exact OB.out
      clear hc
      go_wp2_with fail
      go_meet
      exact ⟨OB', BW⟩
    · have hc' : (a.fr != 0) = true := by simpa using hc
      have HY := hide (optB_yes (c := a.fr ≠ 0) (x := (128, 9, num a.fr.toNat 4)) (by simpa using hc))
      clear hc c0 c1 c2 c3 c4 c5 c6
      obtain ⟨c0, c1, c2, c3, c4, c5, c6⟩ := seven_cells ((BW.out.block p PL.out).trans N0.out)
      have CV : Hid (Calls _ _ _ wc (News wc (num a.fr.toNat 4))) := put_new a.fr HF.out.fr.1 (by have := HF.out.fr.2; omega) 4 (by decide) (by decide) wc
      go_wp2_with fail
      refine CV.out.mono ?_
      rintro e x6a ⟨vv, rfl, ov, bv⟩
      obtain ⟨o6, k6, rfl, ca⟩ := putAttr_new BW.out OB.out ov bv 128 9 (by decide) (by decide) (by have := HLEN.out.2.2.2.2.2.1; omega) (by rw [num_length]; decide)
      have CA := hide ca
      have BX := hide (bthen BW.out bv)
      clear ca ov bv CV c0 c1 c2 c3 c4 c5 c6
      obtain ⟨c0, c1, c2, c3, c4, c5, c6⟩ := seven_cells ((BX.out.block p PL.out).trans N0.out)
      go_wp2_with fail
      refine CA.out.mono ?_
      rintro e x6b ⟨v6, rfl, o2, b2⟩
      have OB' : Hid (Own x6b W.heap.size v6 ((one (64, 1, num a.og.toNat 1) ++ one (64, 2, pathB a.path) ++ optB (a.md ≠ 0) (128, 4, num a.md.toNat 4) ++ one (64, 5, num a.pf.toNat 4) ++ optB (a.comms ≠ []) (192, 8, rowN 2 (flat a.comms))) ++ one (128, 9, num a.fr.toNat 4))) := o2
      have BW' := hide b2
      clear o2 b2 CA BX OB BW c0 c1 c2 c3 c4 c5 c6
      have OB := OB'
      have BW := BW'
      clear OB' BW'
      rw [← HY.out] at OB
      go_wp2_with fail
      go_meet
      exact ⟨OB, BW⟩
  case rest =>
  clear OB BW
  obtain ⟨OB, BW⟩ := hcut
  skip
  obtain ⟨c0, c1, c2, c3, c4, c5, c6⟩ := seven_cells ((BW.out.block p PL.out).trans N0.out)
  go_upto_if 46 with fail
  go_cut [3] from 4 (fun v3 wx => Hid (Own wx W.heap.size v3 (one (64, 1, num a.og.toNat 1) ++ one (64, 2, pathB a.path) ++ optB (a.md ≠ 0) (128, 4, num a.md.toNat 4) ++ one (64, 5, num a.pf.toNat 4) ++ optB (a.comms ≠ []) (192, 8, rowN 2 (flat a.comms)) ++ optB (a.fr ≠ 0) (128, 9, num a.fr.toNat 4) ++ optB (a.cl ≠ []) (128, 10, rowN 4 a.cl))) ∧ Hid (Below W.heap.size W wx))
  clear c0 c1 c2 c3 c4 c5 c6
  case first =>
    obtain ⟨c0, c1, c2, c3, c4, c5, c6⟩ := seven_cells ((BW.out.block p PL.out).trans N0.out)
    by_cases hc : a.cl = []
    · have hc' : ¬ (0 : Int) < (a.cl.length : Int) := by simp [hc]
      have OB' : Hid (Own wc W.heap.size u3 (one (64, 1, num a.og.toNat 1) ++ one (64, 2, pathB a.path) ++ optB (a.md ≠ 0) (128, 4, num a.md.toNat 4) ++ one (64, 5, num a.pf.toNat 4) ++ optB (a.comms ≠ []) (192, 8, rowN 2 (flat a.comms)) ++ optB (a.fr ≠ 0) (128, 9, num a.fr.toNat 4) ++ optB (a.cl ≠ []) (128, 10, rowN 4 a.cl))) := by rw [optB_no (c := a.cl ≠ []) (by simp [hc]), List.append_nil]; exact OB.out
      clear hc
      go_wp2_with fail
      go_meet
      exact ⟨OB', BW⟩
    · have hc' : (0 : Int) < (a.cl.length : Int) := by have := List.length_pos_iff.2 hc; omega
      have HY := hide (optB_yes (c := a.cl ≠ []) (x := (128, 10, rowN 4 a.cl)) (by simpa using hc))
      clear hc c0 c1 c2 c3 c4 c5 c6
      obtain ⟨c0, c1, c2, c3, c4, c5, c6⟩ := seven_cells ((BW.out.block p PL.out).trans N0.out)
      have CV : Hid (Calls _ _ _ wc (News wc (rowN 4 a.cl))) := nums_new ko ck a.cl 4 (by decide) (by decide) (fun x hx => by have := HF.out.cl x hx; omega) (by omega) wc (Is.slot_below HL.out.2.2 BW.out)
      go_wp2_with fail
      refine CV.out.mono ?_
      rintro e x7a ⟨vv, rfl, ov, bv⟩
      obtain ⟨o7, k7, rfl, ca⟩ := putAttr_new BW.out OB.out ov bv 128 10 (by decide) (by decide) (by have := HLEN.out.2.2.2.2.2.2; omega) HLD.out.2.2
      have CA := hide ca
      have BX := hide (bthen BW.out bv)
      clear ca ov bv CV c0 c1 c2 c3 c4 c5 c6
      obtain ⟨c0, c1, c2, c3, c4, c5, c6⟩ := seven_cells ((BX.out.block p PL.out).trans N0.out)
      go_wp2_with fail
      refine CA.out.mono ?_
      rintro e x7b ⟨v7, rfl, o2, b2⟩
      have OB' : Hid (Own x7b W.heap.size v7 ((one (64, 1, num a.og.toNat 1) ++ one (64, 2, pathB a.path) ++ optB (a.md ≠ 0) (128, 4, num a.md.toNat 4) ++ one (64, 5, num a.pf.toNat 4) ++ optB (a.comms ≠ []) (192, 8, rowN 2 (flat a.comms)) ++ optB (a.fr ≠ 0) (128, 9, num a.fr.toNat 4)) ++ one (128, 10, rowN 4 a.cl))) := o2
      have BW' := hide b2
      clear o2 b2 CA BX OB BW c0 c1 c2 c3 c4 c5 c6
      have OB := OB'
      have BW := BW'
      clear OB' BW'
      rw [← HY.out] at OB
      go_wp2_with fail
      go_meet
      exact ⟨OB, BW⟩
  case rest =>
  clear OB BW
  obtain ⟨OB, BW⟩ := hcut
  skip
  rw [← HE.out] at OB
  go_wp2_with fail
  go_ret
  refine ⟨_, rfl, own_base OB.out (by rw [HP.out]; exact hsz), bthen HB.out BW.out⟩
end Go.Proofs.Ytkhmhmopcofejaa
