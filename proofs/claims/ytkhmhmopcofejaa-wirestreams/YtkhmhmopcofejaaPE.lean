import Derived.Test.YtkhmhmopcofejaaPA
import Derived.Deep.RegionHeldLaw
/- The contracts of wire's numberBytes, pathBytes and commBytes. -/
namespace Go.Proofs.Ytkhmhmopcofejaa
open Go.RowKit Go.Sort

/-- New bytes of one's own. -/
def News (w : World) (l : List UInt8) (e : Ending) (w' : World) : Prop := ∃ v', e = .returned v' ∧ Own w' w.heap.size v' l ∧ Below w.heap.size w w'
theorem news_of {w : World} {l : List UInt8} {e : Ending} {w' : World} (h : Puts w w.heap.size (.slice none 0 0) l e w') : News w l e w' := by
  obtain ⟨v', h1, h2, h3, _⟩ := h
  exact ⟨v', h1, h2, below_of_grown h3⟩
theorem rowN_take {k : Nat} {l : List Int} {i : Nat} (h : i < l.length) : rowN k (l.take (i + 1)) = rowN k (l.take i) ++ num l[i].toNat k := by
  unfold rowN
  rw [List.take_succ_eq_append_getElem h, List.flatMap_append]
  simp only [List.flatMap_cons, List.flatMap_nil, List.append_nil]
set_option maxHeartbeats 1000000 in
set_option maxRecDepth 100000 in
theorem numberBytes_is (w0 : World) (v : Value) (xs : List UInt8) (ao : Option Addr) (ca : Nat) (l : List Int) (many : Nat) (hm0 : 0 < many) (hm : many ≤ 4) (hr : ∀ x ∈ l, 0 ≤ x ∧ x ≤ 4294967295) (hl : l.length ≤ 1000) (hx : xs.length ≤ 1000) (w : World) (hb : Below w0.heap.size w0 w) (hO : Own w w0.heap.size v xs) (hA : Is.slot w0 ao l) :
    Calls Try.prog 54 #[v, .slice ao l.length ca, .int .i64 many] w (Puts w w0.heap.size v (xs ++ rowN many l)) := by
  have HG := hide hr
  have HA := hide hA
  have HO := hide hO
  have HB := hide hb
  have HM := hide (And.intro hm0 hm)
  clear hr hA hO hb
  go_enter Try.func54, Try.ntmps54
  go_wp2_with fail
  go_loopw [0, 11] (fun v0 v9 wr => ∃ k : Nat, k ≤ l.length ∧ v9 = .int .i64 k ∧ Hid (Own wr w0.heap.size v0 (xs ++ rowN many (l.take k))) ∧ w.grownBy wr v.ownBlock ∧ Nx w v.ownBlock v0.ownBlock) (fun _ v9 _ => l.length - (intOf v9).toNat)
  case atStart => exact ⟨0, Nat.zero_le _, rfl, (by show Own _ _ _ _; rw [List.take_zero, show rowN many [] = [] from rfl, List.append_nil]; exact HO.out), grown_refl w _, nx_refl w _⟩
  case round =>
    obtain ⟨k, hk, rfl, HW, hg, hn⟩ := hrel
    by_cases hkl : k < l.length
    · have hkl' : (k : Int) < (l.length : Int) := by omega
      have hb := grown_from HB.out (.inl HO.out) hg
      obtain ⟨b, off, rfl, hrd⟩ := Is.slot_at (Is.slot_below HA.out hb) hkl
      have hc := hrd k hkl
      have hgk := HG.out l[k] (List.getElem_mem hkl)
      obtain ⟨n, hn'⟩ : ∃ n : Nat, l[k] = (n : Int) := ⟨l[k].toNat, by omega⟩
      have hlen : (xs ++ rowN many (l.take k)).length ≤ 100000 := by
        have e1 := rows_length many (l.take k)
        have e2 : (l.take k).length * many ≤ 1000 * 4 := Nat.mul_le_mul (by rw [List.length_take]; omega) HM.out.2
        rw [List.length_append]
        omega
      have CP := hide (put_is w0.heap.size u0 (xs ++ rowN many (l.take k)) n many (by omega) HM.out.1 HM.out.2 hlen wr hb.size (.inl HW.out))
      have HE : Hid (xs ++ rowN many (l.take k) ++ num n many = xs ++ rowN many (l.take (k + 1))) := by show _ = _; rw [rowN_take hkl, hn', List.append_assoc]; rfl
      rw [hn'] at hc
      have HGR := hide hg
      have HN := hide hn
      clear hrd hb hgk hg hn hlen HW hn'
      go_wp2_with fail
      refine CP.out.mono ?_
      rintro e w1 ⟨v1, rfl, o1, g1, x1⟩
      have O1 : Hid (Own w1 w0.heap.size v1 (xs ++ rowN many (l.take (k + 1)))) := by rw [← HE.out]; exact o1
      have G1 := hide (grown_trans HGR.out HN.out g1)
      have X1 := hide (nx_trans HN.out HGR.out.size x1)
      clear o1 g1 x1 CP HE HGR HN
      go_wp2_with fail
      exact ⟨⟨k + 1, hkl, by go_num, O1.out, G1.out, X1.out⟩, by simp [intOf] <;> omega⟩
    · obtain rfl : k = l.length := by omega
      have HGR := hide hg
      have HN := hide hn
      clear hg hn
      go_wp2_with fail
      go_ret
      refine ⟨_, rfl, ?_, HGR.out, HN.out⟩
      have := HW.out
      rw [List.take_length] at this
      exact this
theorem own_two (W : World) (B : Nat) (hB : B ≤ W.heap.size) (d e : Int) (h0 : 0 ≤ d) (h1 : d < 256) (h2 : 0 ≤ e) (h3 : e < 256) : Own (W.alloc (.cells #[.int .u8 d, .int .u8 e] 5)) B (.slice (some ⟨W.heap.size, 0, none⟩) 2 2) [UInt8.ofNat d.toNat, UInt8.ofNat e.toNat] := by
  have k : ∀ x : Int, 0 ≤ x → x < 256 → (((UInt8.ofNat x.toNat).toNat : Nat) : Int) = x := by
    intro x a b
    rw [byte_nat (by omega)]
    omega
  refine ⟨rfl, .inr ⟨W.heap.size, 2, _, rfl, hB, heap_new W _ 5, Nat.le_refl _, by decide, rfl, ?_⟩⟩
  simp only [bcells, List.map_cons, List.map_nil, k d h0 h1, k e h2 h3]
  rfl
set_option maxHeartbeats 1000000 in
set_option maxRecDepth 100000 in
theorem pathBytes_is (ao : Option Addr) (ca : Nat) (l : List Int) (hr : ∀ x ∈ l, 0 ≤ x ∧ x ≤ 4294967295) (hl : l.length < 256) (w : World) (hA : Is.slot w ao l) :
    Calls Try.prog 52 #[.slice ao l.length ca] w (News w (pathB l)) := by
  by_cases h0 : l = []
  · subst h0
    go_enter Try.func52, Try.ntmps52
    go_wp2_with fail
    go_ret
    exact ⟨_, rfl, own_nil w _, brefl w⟩
  · have h1 : l.length ≠ 0 := fun e => h0 (List.length_eq_zero_iff.1 e)
    have h1' : ¬ (l.length : Int) = 0 := by omega
    have h2 : (l.length : Int) % 256 = l.length := by omega
    have A1 := hide (balloc (brefl w) (.cells #[.int .u8 2, .int .u8 (l.length : Int)] 5))
    have CN := hide (numberBytes_is w (.slice (some ⟨w.heap.size, 0, none⟩) 2 2) [UInt8.ofNat (2 : Int).toNat, UInt8.ofNat (l.length : Int).toNat] ao ca l 2 (by decide) (by decide) hr (by omega) (by simp) (w.alloc (.cells #[.int .u8 2, .int .u8 (l.length : Int)] 5)) A1.out (own_two w w.heap.size (Nat.le_refl _) 2 (l.length : Int) (by decide) (by decide) (by omega) (by omega)) hA)
    have HE : Hid ([UInt8.ofNat (2 : Int).toNat, UInt8.ofNat (l.length : Int).toNat] ++ rowN 2 l = pathB l) := by show _ = _; unfold pathB; rw [if_neg h0]; rfl
    clear hA hr hl
    go_enter Try.func52, Try.ntmps52
    go_wp2_with fail
    refine CN.out.mono ?_
    rintro e w1 ⟨v1, rfl, o1, g1, x1⟩
    have O1 : Hid (Own w1 w.heap.size v1 (pathB l)) := by rw [← HE.out]; exact o1
    have B1 : Hid (Below w.heap.size w w1) := Below.grown A1.out g1 A1.out.size fun k hk => (by cases hk; exact Nat.le_refl _)
    clear o1 g1 x1 CN A1
    go_wp2_with fail
    go_ret
    exact ⟨_, rfl, O1.out, B1.out⟩
set_option maxHeartbeats 1000000 in
set_option maxRecDepth 100000 in
theorem commBytes_is (ao : Option Addr) (cp : Nat) (l : List Cm.Co.C) (hr : ∀ x ∈ l, 0 ≤ x.1 ∧ x.1 ≤ 65535 ∧ 0 ≤ x.2 ∧ x.2 ≤ 65535) (hl : l.length ≤ 1000) (w : World) (hA : Cm.Co.slot w ao l) :
    Calls Try.prog 53 #[.slice ao l.length cp] w (News w (rowN 2 (flat l))) := by
  have HG := hide hr
  have HA := hide hA
  clear hr hA
  go_enter Try.func53, Try.ntmps53
  go_wp2_with fail
  go_loopw [3, 8] (fun v3 v8 wr => ∃ k : Nat, k ≤ l.length ∧ v8 = .int .i64 k ∧ Hid (Own wr w.heap.size v3 (rowN 2 (flat (l.take k)))) ∧ Below w.heap.size w wr) (fun _ v8 _ => l.length - (intOf v8).toNat)
  case atStart => exact ⟨0, Nat.zero_le _, rfl, own_nil w _, brefl w⟩
  case round =>
    obtain ⟨k, hk, rfl, HW, hb⟩ := hrel
    by_cases hkl : k < l.length
    · have hkl' : (k : Int) < (l.length : Int) := by omega
      obtain ⟨b, off, rfl, hrd⟩ := Cm.Co.slot_at (Cm.Co.slot_below HA.out hb) hkl
      obtain ⟨q0, q1⟩ := Cm.Co.reads_at hrd k hkl
      have hgk := HG.out l[k] (List.getElem_mem hkl)
      have hlen : (rowN 2 (flat (l.take k))).length ≤ 10000 := by rw [rows_length, flat_length, List.length_take]; omega
      have HE : Hid (rowN 2 (flat (l.take k)) ++ num l[k].1.toNat 2 ++ num l[k].2.toNat 2 = rowN 2 (flat (l.take (k + 1)))) := by show _ = _; rw [flat_take hkl]
      generalize l[k] = pk at *
      obtain ⟨pa, pb⟩ := pk
      simp only at q0 q1 hgk HE
      obtain ⟨ca, rfl⟩ : ∃ n : Nat, pa = (n : Int) := ⟨pa.toNat, by omega⟩
      obtain ⟨cb, rfl⟩ : ∃ n : Nat, pb = (n : Int) := ⟨pb.toNat, by omega⟩
      simp only [Int.toNat_natCast] at HE
      have BR := hide hb
      have AR := hide (balloc (brefl wr) (.cells #[.int .i64 (ca : Int), .int .i64 (cb : Int)] 94))
      have BRA := hide (bthen hb AR.out)
      have N0 := hide (heap_new wr #[.int .i64 (ca : Int), .int .i64 (cb : Int)] 94)
      have OR := hide (own_below HW.out AR.out)
      have hlt : wr.heap.size < (wr.alloc (.cells #[.int .i64 (ca : Int), .int .i64 (cb : Int)] 94)).heap.size := by simp
      have HV := hide (fun j hj => (own_lt (.inl HW.out) j hj).1)
      have HV2 := hide (fun j hj => (own_lt (.inl HW.out) j hj).2)
      have HLT := hide hlt
      have BRS := hide hb.size
      clear hrd hb HW hlt
      go_wp2_with fail
      obtain ⟨c0, c1⟩ : (wr.alloc (.cells #[.int .i64 (ca : Int), .int .i64 (cb : Int)] 94)).cell? ⟨wr.heap.size, 0, none⟩ = some (.int .i64 (ca : Int)) ∧ (wr.alloc (.cells #[.int .i64 (ca : Int), .int .i64 (cb : Int)] 94)).cell? ⟨wr.heap.size, 1, none⟩ = some (.int .i64 (cb : Int)) := by simp
      have CD : Hid (∀ W' r, (wr.alloc (.cells #[.int .i64 (ca : Int), .int .i64 (cb : Int)] 94)).grownBy W' r → some wr.heap.size ≠ r → W'.cell? ⟨wr.heap.size, 0, none⟩ = some (.int .i64 (ca : Int)) ∧ W'.cell? ⟨wr.heap.size, 1, none⟩ = some (.int .i64 (cb : Int))) := by
        intro W' r hg hne
        exact ⟨hg.cell c0 hne, hg.cell c1 hne⟩
      generalize wr.alloc (.cells #[.int .i64 (ca : Int), .int .i64 (cb : Int)] 94) = W at *
      have hC : Hid (some wr.heap.size ≠ u3.ownBlock) := fun e => by have := HV2.out _ e.symm; omega
      have SH : Hid (∀ W', W.grownBy W' u3.ownBlock → W'.cell? ⟨wr.heap.size, 0, none⟩ = some (.int .i64 (ca : Int)) ∧ W'.cell? ⟨wr.heap.size, 1, none⟩ = some (.int .i64 (cb : Int))) := fun W' hg => CD.out W' _ hg hC.out
      have CP : Hid (∀ W', w.heap.size ≤ W'.heap.size → Own W' w.heap.size u3 (rowN 2 (flat (l.take k))) → Calls Try.prog 50 #[u3, .int .i64 (ca : Int), .int .i64 2] W' (Puts W' w.heap.size u3 (rowN 2 (flat (l.take k)) ++ num ca 2))) := fun W' hs ho => put_is w.heap.size u3 _ ca 2 (by omega) (by decide) (by decide) (by omega) W' hs (.inl ho)
      have CQ : Hid (∀ v' ys W', w.heap.size ≤ W'.heap.size → Own W' w.heap.size v' (rowN 2 (flat (l.take k)) ++ ys) → ys.length = 2 → Calls Try.prog 50 #[v', .int .i64 (cb : Int), .int .i64 2] W' (Puts W' w.heap.size v' (rowN 2 (flat (l.take k)) ++ ys ++ num cb 2))) := fun v' ys W' hs ho hy => put_is w.heap.size v' _ cb 2 (by omega) (by decide) (by decide) (by rw [List.length_append]; omega) W' hs (.inl ho)
      have G0 : Hid (W.grownBy W.drew u3.ownBlock) := grown_of_below (brefl W).drew
      have O0 : Hid (Own W.drew w.heap.size u3 (rowN 2 (flat (l.take k)))) := own_below OR.out (brefl W).drew
      have B0 : Hid (w.heap.size ≤ W.drew.heap.size) := Nat.le_trans BRS.out AR.out.size
      clear CD hC HLT q0 q1 hgk hlen N0 OR
      generalize rowN 2 (flat (l.take k)) = ys at *
      generalize wr.heap.size = C at *
      have BW : Hid (w.heap.size ≤ W.heap.size) := B0
      refine wp_region_held_drew (S := fun w' => w'.cell? ⟨C, 0, none⟩ = some (.int .i64 (ca : Int)) ∧ w'.cell? ⟨C, 1, none⟩ = some (.int .i64 (cb : Int))) (by kernel_rfl) ⟨c0, c1⟩ (fun hHeld => ?_)
      refine wpAnyH_take (i := 0) (v := u3) rfl (by kernel_rfl) (by kernel_rfl) (by kernel_rfl) (fun _ _ _ h => h) (Or.inl ⟨by rfl, fun w hSw => by dsimp only at hSw; go_simp⟩) hHeld ?_
      simp only [Act.put, List.getElem_toArray, List.getElem_cons_zero, List.setIfInBounds_toArray, List.set_cons_zero, List.set_cons_succ]
      refine wpAnyH_take (i := 1) (v := .pointer (some ⟨C, 0, none⟩)) rfl (by kernel_rfl) (by kernel_rfl) (by kernel_rfl) (fun _ _ _ h => h) (Or.inl ⟨by rfl, fun w hSw => by dsimp only at hSw; go_simp⟩) hHeld ?_
      simp only [Act.put, List.getElem_toArray, List.getElem_cons_zero, List.getElem_cons_succ, List.setIfInBounds_toArray, List.set_cons_zero, List.set_cons_succ]
      refine wpAnyH_take (i := 2) (v := .int .i64 (ca : Int)) rfl (by kernel_rfl) (by kernel_rfl) (by kernel_rfl) (fun _ _ _ h => h) (Or.inl ⟨by rfl, fun w hSw => by dsimp only at hSw; go_simp⟩) hHeld ?_
      simp only [Act.put, List.getElem_toArray, List.getElem_cons_zero, List.getElem_cons_succ, List.setIfInBounds_toArray, List.set_cons_zero, List.set_cons_succ]
      refine wpAnyH_take (i := 4) (v := .pointer (some ⟨C, 1, none⟩)) rfl (by kernel_rfl) (by kernel_rfl) (by kernel_rfl) (fun _ _ _ h => h) (Or.inl ⟨by rfl, fun w hSw => by dsimp only at hSw; go_simp⟩) hHeld ?_
      simp only [Act.put, List.getElem_toArray, List.getElem_cons_zero, List.getElem_cons_succ, List.setIfInBounds_toArray, List.set_cons_zero, List.set_cons_succ]
      refine wpAnyH_take (i := 5) (v := .int .i64 (cb : Int)) rfl (by kernel_rfl) (by kernel_rfl) (by kernel_rfl) (fun _ _ _ h => h) (Or.inl ⟨by rfl, fun w hSw => by dsimp only at hSw; go_simp⟩) hHeld ?_
      simp only [Act.put, List.getElem_toArray, List.getElem_cons_zero, List.getElem_cons_succ, List.setIfInBounds_toArray, List.set_cons_zero, List.set_cons_succ]
      refine wpAnyH_ready (rs := [3]) (by kernel_rfl) (by simp) ?_
      refine AllReadyH.cons rfl (fun K hK => ?_) AllReadyH.nil
      go_simp
      go_wp2_with (refine (CP.out _ B0.out O0.out).mono ?_; rintro e w1 ⟨v1, rfl, o1, g1, x1⟩; have O1 := hide o1; have G1 := hide (grown_trans G0.out (nx_refl _ _) g1); have X1 := hide (nx_below G0.out.size x1); have S1 := hide (SH.out _ G1.out); have Q1 := hide (CQ.out _ _ _ (Nat.le_trans BW.out G1.out.size) o1 (num_length _ _)); clear o1 g1 x1)
      refine hK.out _ _ S1.out (fun hHeld => ?_)
      clear hK K
      try simp only [Act.put, List.getElem_toArray, List.getElem_cons_zero, List.getElem_cons_succ, List.setIfInBounds_toArray, List.set_cons_zero, List.set_cons_succ]
      refine wpAnyH_ready (rs := [6]) (by kernel_rfl) (by simp) ?_
      refine AllReadyH.cons rfl (fun K hK => ?_) AllReadyH.nil
      go_simp
      go_wp2_with (refine Q1.out.mono ?_; rintro e w2 ⟨v2, rfl, o2, g2, x2⟩; have O2 := hide o2; have G2 := hide (grown_trans G1.out X1.out g2); have X2 := hide (nx_trans X1.out G1.out.size x2); have S2 := hide (SH.out _ G2.out); clear o2 g2 x2)
      refine hK.out _ _ S2.out (fun hHeld => ?_)
      clear hK K
      try simp only [Act.put, List.getElem_toArray, List.getElem_cons_zero, List.getElem_cons_succ, List.setIfInBounds_toArray, List.set_cons_zero, List.set_cons_succ]
      refine wpAnyH_take (i := 7) (v := v2) rfl (by kernel_rfl) (by kernel_rfl) (by kernel_rfl) (fun _ _ _ h => h) (Or.inl ⟨by rfl, fun w hSw => by dsimp only at hSw; go_simp⟩) hHeld ?_
      simp only [Act.put, List.getElem_toArray, List.getElem_cons_zero, List.getElem_cons_succ, List.setIfInBounds_toArray, List.set_cons_zero, List.set_cons_succ]
      refine wpAnyH_done (by kernel_rfl) ?_ _
      have OW : Hid (Own w2 w.heap.size v2 (rowN 2 (flat (l.take (k + 1))))) := by rw [← HE.out]; exact O2.out
      have BE : Hid (Below w.heap.size w w2) := Below.grown BRA.out G2.out BW.out fun j hj => HV.out j hj
      clear O2 G2 X2 S2 O1 G1 X1 S1 Q1 CP CQ SH G0 O0 B0 HE hHeld
      go_wp2_with fail
      exact ⟨⟨k + 1, hkl, by go_num, OW.out, BE.out⟩, by simp [intOf] <;> omega⟩
    · obtain rfl : k = l.length := by omega
      have BR := hide hb
      clear hb
      go_wp2_with fail
      go_ret
      refine ⟨_, rfl, ?_, BR.out⟩
      have := HW.out
      rw [List.take_length] at this
      exact this
end Go.Proofs.Ytkhmhmopcofejaa
