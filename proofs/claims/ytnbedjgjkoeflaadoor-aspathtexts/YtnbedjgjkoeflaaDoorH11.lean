/- The contract of the document's Parse of a path: its walk. -/
import Derived.Test.YtnbedjgjkoeflaaDoorH10
namespace Go.Proofs.YtnbedjgjkoeflaaDoor
open Go.RowKit

theorem parse_empty (w : World) : Calls Tryd.prog 12 #[.string ⟨#[]⟩] w (PathGood w [] 0) := by
  go_enter Tryd.func12, Tryd.ntmps12
  go_wp2_with fail
  exact bodyPost_ret (v := .tuple #[.slice none 0 0, .int .i64 0]) (by simp [results, Tryd.results12, go_sem]) rfl (path_none _ _ (brefl w))

set_option maxHeartbeats 8000000 in
set_option maxRecDepth 100000 in
theorem refParse_more (s : ByteArray) (y : List Int) (q : Int) (w : World) (hs : s.size ≤ 2000) (h0 : 0 < s.size) (h : Is.parse s.data.toList = (y, q)) :
    Calls Tryd.prog 12 #[.string s] w (PathGood w y q) := by
  have he : s.toList.isEmpty = false := by rw [Ad.empty_iff]; exact decide_eq_false (by omega)
  obtain ⟨l, hl⟩ : ∃ l, s.data.toList = l := ⟨_, rfl⟩
  have hll : l.length = s.size := by rw [← hl]; exact Ad.size_list s
  have hne : l ≠ [] := by intro e; rw [e] at hll; simp at hll; omega
  rw [hl] at h
  have HBAD : Hid (PBad l → y = [] ∧ q = 4) := fun ⟨f, hf, hn⟩ => Is.parse_bad l hne f hf hn y q h
  have HGET : Hid (∀ i (h : i < s.size) (h2 : i < l.length), l[i] = s[i]) := by
    show ∀ i, _
    intro i hi _
    subst hl
    exact Ad.get_list s i hi
  have HP := hide h
  have HNE := hide hne
  have HLL := hide hll
  clear h hne hll hl
  go_enter Tryd.func12, Tryd.ntmps12
  go_wp2_with fail
  go_loopw [4, 5, 6, 7] (fun v4 v5 v6 v7 wr => ((∃ (i k : Nat) (n : Int) (done : List (List UInt8)) (cur : List UInt8) (o : Option Addr) (c m : Nat), v7 = .int .i64 i ∧ v4 = .slice o m c ∧ v5 = .int .i64 n ∧ v6 = .int .i64 k ∧ i ≤ s.size ∧ k ≤ i ∧ m ≤ i ∧ 0 ≤ n ∧ n ≤ 1000000 ∧ Hid (k = cur.length) ∧ Hid (n = cl cur) ∧ Hid (PInv l i done cur) ∧ wr.ownsRow w.heap.size 3 1 (.slice o m c) m (Is.cells (done.map cl))) ∨
      (∃ (n k : Int) (done : List (List UInt8)) (o : Option Addr) (c m : Nat), v7 = .int .i64 ((s.size + 1 : Nat) : Int) ∧ v4 = .slice o m c ∧ v5 = .int .i64 n ∧ v6 = .int .i64 k ∧ m ≤ s.size + 1 ∧ Hid (PEnd l done) ∧ wr.ownsRow w.heap.size 3 1 (.slice o m c) m (Is.cells (done.map cl)))) ∧ Below w.heap.size w wr) (fun _ _ _ v7 _ => s.size + 1 - (intOf v7).toNat)
  case atStart => exact ⟨.inl ⟨0, 0, 0, [], [], none, 0, 0, rfl, rfl, rfl, rfl, Nat.zero_le _, Nat.le_refl _, Nat.le_refl _, by decide, by decide, hide rfl, hide rfl, hide (PInv.start l), World.ownsRow_nil _ _ _ _⟩, brefl w⟩
  case round =>
    obtain ⟨hrel, hbr⟩ := hrel
    have HBR := hide hbr
    clear hbr
    rcases hrel with ⟨i, k, n, done, cur, o, c, m, rfl, rfl, rfl, rfl, hi, hki, hmi, hn0, hn1, HK, HN, HI, hown⟩ | ⟨n, k, done, o, c, m, rfl, rfl, rfl, rfl, hms, HE, hown⟩
    · have HO := hide hown
      clear hown
      have hile : (i : Int) ≤ (s.size : Int) := by omega
      by_cases hlt : i < s.size
      · have hlt' : (i : Int) < (s.size : Int) := by omega
        have hni : ¬ (i : Int) = (s.size : Int) := by omega
        have hil : i < l.length := by rw [HLL.out]; exact hlt
        have hg := HGET.out i hlt hil
        by_cases h32 : (s[i].toNat : Int) = 32
        · have hc : l[i] = 32 := by rw [hg]; exact UInt8.toNat_inj.1 (by show s[i].toNat = 32; omega)
          by_cases hk0 : k = 0
          · subst hk0
            obtain rfl : cur = [] := List.length_eq_zero_iff.1 HK.out.symm
            obtain ⟨rfl, rfl⟩ := HBAD.out (HI.out.blank0 hil hc)
            clear hg hc
            go_wp2_with fail
            exact bodyPost_ret (v := .tuple #[.slice none 0 0, .int .i64 4]) (by simp [results, Tryd.results12, go_sem]) rfl (path_none _ _ HBR.out)
          · have hk0' : ¬ (k : Int) = 0 := by omega
            have hcur : cur ≠ [] := by intro e; apply hk0; rw [HK.out, e]; rfl
            have HI2 := hide (HI.out.blank hil hc hcur)
            have hbi : ((i : Int) == (s.size : Int)) = false := by simpa using hni
            have hb32 : ((s[i].toNat : Int) == 32) = true := by simpa using h32
            clear hg hc hcur hni h32
            go_wp2_with (at_builtin; go_must (refine append_ints (w0 := w) rfl _ _ rfl _ _ (done.map cl) rfl (HO.out.alloc _) (some ⟨wr.heap.size, 0, none⟩) 1 _ [n] rfl rfl (Is.slot_one _ _ _) (came_some _ _ _) (by omega) (balloc HBR.out _) ?_))
            intro v' w2 hnew hb2
            obtain ⟨no, nc, rfl⟩ := row_slice hnew
            have HNW : Hid (w2.ownsRow w.heap.size 3 1 (.slice no (m + 1) nc) (m + 1) (Is.cells ((done ++ [cur]).map cl))) := by
              rw [List.map_append, List.map_singleton, ← HN.out]
              exact hnew
            have B2 := hide hb2
            clear hnew hb2
            go_wp2_with fail
            exact ⟨⟨.inl ⟨i + 1, 0, 0, done ++ [cur], [], no, nc, m + 1, by go_num, rfl, rfl, rfl, by omega, by omega, by omega, by decide, by decide, hide rfl, hide rfl, HI2, HNW.out⟩, B2.out⟩, by simp [intOf] <;> omega⟩
        · have hc : l[i] ≠ 32 := by rw [hg]; intro e; apply h32; rw [e]; rfl
          have hbi : ((i : Int) == (s.size : Int)) = false := by simpa using hni
          have hb32 : ((s[i].toNat : Int) == 32) = false := by simpa using h32
          clear hni h32
          by_cases hd1 : (s[i].toNat : Int) < 48
          · obtain ⟨rfl, rfl⟩ := HBAD.out (HI.out.letter hil hc (by rw [hg]; unfold Ad.dig; rw [decide_eq_false (by omega)]; rfl))
            clear hg hc
            go_wp2_with fail
            exact bodyPost_ret (v := .tuple #[.slice none 0 0, .int .i64 4]) (by simp [results, Tryd.results12, go_sem]) rfl (path_none _ _ HBR.out)
          · by_cases hd2 : (57 : Int) < (s[i].toNat : Int)
            · obtain ⟨rfl, rfl⟩ := HBAD.out (HI.out.letter hil hc (by rw [hg]; unfold Ad.dig; rw [decide_eq_false (p := s[i].toNat ≤ 57) (by omega), Bool.and_false]))
              clear hg hc
              go_wp2_with fail
              exact bodyPost_ret (v := .tuple #[.slice none 0 0, .int .i64 4]) (by simp [results, Tryd.results12, go_sem]) rfl (path_none _ _ HBR.out)
            · have hdg : Ad.dig l[i] = true := by rw [hg]; unfold Ad.dig; rw [decide_eq_true (p := 48 ≤ s[i].toNat) (by omega), decide_eq_true (p := s[i].toNat ≤ 57) (by omega)]; rfl
              have HST : Hid (cl (cur ++ [l[i]]) = Ad.clampM (10 * n + ((s[i].toNat : Int) - 48))) := by
                show _ = _
                unfold cl
                rw [clamp_step cur HI.out.2.2.2.1 l[i] hdg, HN.out, hg]
                rfl
              have hnz : n = 0 ↔ Ad.num cur = 0 := by rw [HN.out]; exact (clamp_bd cur HI.out.2.2.2.1).2.2
              have HK2 : Hid (k + 1 = (cur ++ [l[i]]).length) := by show _ = _; rw [List.length_append, ← HK.out]; rfl
              have hcases : (0 < k ∧ n = 0) ∨ (k = 0 ∧ ¬ 1000000 < 10 * n + (s[i].toNat : Int) - 48) ∨ (0 < k ∧ n ≠ 0 ∧ ¬ 1000000 < 10 * n + (s[i].toNat : Int) - 48) ∨ (0 < k ∧ n ≠ 0 ∧ 1000000 < 10 * n + (s[i].toNat : Int) - 48) := by
                by_cases hk0 : k = 0
                · subst hk0
                  obtain rfl : cur = [] := List.length_eq_zero_iff.1 HK.out.symm
                  have : n = 0 := HN.out
                  omega
                · omega
              rcases hcases with ⟨hk, hz⟩ | ⟨hk, hm⟩ | ⟨hk, hz, hm⟩ | ⟨hk, hz, hm⟩
              · have hk' : (0 : Int) < (k : Int) := by omega
                obtain ⟨rfl, rfl⟩ := HBAD.out (HI.out.zero hil hc (by intro e; have := HK.out; rw [e] at this; simp at this; omega) (hnz.1 hz))
                subst hz
                clear hg hc hnz hdg
                go_wp2_with fail
                exact bodyPost_ret (v := .tuple #[.slice none 0 0, .int .i64 4]) (by simp [results, Tryd.results12, go_sem]) rfl (path_none _ _ HBR.out)
              · subst hk
                have HI2 := hide (HI.out.digit hil hc hdg (.inl (List.length_eq_zero_iff.1 HK.out.symm)))
                have HN2 : Hid (10 * n + (s[i].toNat : Int) - 48 = cl (cur ++ [l[i]])) := by
                  show _ = _
                  rw [HST.out, Ad.clampM, if_neg (by omega)]
                  omega
                have hlo : 0 ≤ 10 * n + (s[i].toNat : Int) - 48 := by omega
                clear hg hc hnz hdg
                go_wp2_with fail
                exact ⟨⟨.inl ⟨i + 1, 1, 10 * n + (s[i].toNat : Int) - 48, done, cur ++ [l[i]], o, c, m, by go_num, rfl, by go_num, by go_num, by omega, by omega, by omega, by omega, by omega, HK2, HN2, HI2, HO.out⟩, HBR.out⟩, by simp [intOf] <;> omega⟩
              · have hk' : (0 : Int) < (k : Int) := by omega
                have HI2 := hide (HI.out.digit hil hc hdg (.inr fun e => hz (hnz.2 e)))
                have HN2 : Hid (10 * n + (s[i].toNat : Int) - 48 = cl (cur ++ [l[i]])) := by
                  show _ = _
                  rw [HST.out, Ad.clampM, if_neg (by omega)]
                  omega
                have hlo : 0 ≤ 10 * n + (s[i].toNat : Int) - 48 := by omega
                clear hg hc hnz hdg
                go_wp2_with fail
                exact ⟨⟨.inl ⟨i + 1, k + 1, 10 * n + (s[i].toNat : Int) - 48, done, cur ++ [l[i]], o, c, m, by go_num, rfl, by go_num, by go_num, by omega, by omega, by omega, by omega, by omega, HK2, HN2, HI2, HO.out⟩, HBR.out⟩, by simp [intOf] <;> omega⟩
              · have hk' : (0 : Int) < (k : Int) := by omega
                have HI2 := hide (HI.out.digit hil hc hdg (.inr fun e => hz (hnz.2 e)))
                have HN2 : Hid ((1000000 : Int) = cl (cur ++ [l[i]])) := by
                  show _ = _
                  rw [HST.out, Ad.clampM, if_pos (by omega)]
                clear hg hc hnz hdg
                go_wp2_with fail
                exact ⟨⟨.inl ⟨i + 1, k + 1, 1000000, done, cur ++ [l[i]], o, c, m, by go_num, rfl, rfl, by go_num, by omega, by omega, by omega, by omega, by omega, HK2, HN2, HI2, HO.out⟩, HBR.out⟩, by simp [intOf] <;> omega⟩
      · obtain rfl : i = s.size := by omega
        by_cases hk0 : k = 0
        · subst hk0
          obtain rfl : cur = [] := List.length_eq_zero_iff.1 HK.out.symm
          have hIE := HI.out
          rw [← HLL.out] at hIE
          obtain ⟨rfl, rfl⟩ := HBAD.out hIE.last0
          clear hIE
          go_wp2_with fail
          exact bodyPost_ret (v := .tuple #[.slice none 0 0, .int .i64 4]) (by simp [results, Tryd.results12, go_sem]) rfl (path_none _ _ HBR.out)
        · have hk0' : ¬ (k : Int) = 0 := by omega
          have hcur : cur ≠ [] := by intro e; apply hk0; rw [HK.out, e]; rfl
          have hIE := HI.out
          rw [← HLL.out] at hIE
          have HE := hide (hIE.last hcur)
          clear hIE hcur
          go_wp2_with (at_builtin; go_must (refine append_ints (w0 := w) rfl _ _ rfl _ _ (done.map cl) rfl (HO.out.alloc _) (some ⟨wr.heap.size, 0, none⟩) 1 _ [n] rfl rfl (Is.slot_one _ _ _) (came_some _ _ _) (by omega) (balloc HBR.out _) ?_))
          intro v' w2 hnew hb2
          obtain ⟨no, nc, rfl⟩ := row_slice hnew
          have HNW : Hid (w2.ownsRow w.heap.size 3 1 (.slice no (m + 1) nc) (m + 1) (Is.cells ((done ++ [cur]).map cl))) := by
            rw [List.map_append, List.map_singleton, ← HN.out]
            exact hnew
          have B2 := hide hb2
          clear hnew hb2
          go_wp2_with fail
          exact ⟨⟨.inr ⟨0, 0, done ++ [cur], no, nc, m + 1, by go_num, rfl, rfl, rfl, by omega, HE, HNW.out⟩, B2.out⟩, by simp [intOf] <;> omega⟩
    · have hout : ¬ (((s.size + 1 : Nat) : Int)) ≤ (s.size : Int) := by omega
      obtain ⟨p, hp⟩ : ∃ p, done.map cl = p := ⟨_, rfl⟩
      rw [hp] at hown
      obtain rfl := Is.own_len hown
      have HS := hide (Is.slot_own hown)
      have HO := hide hown
      have hspl := HE.out.1
      have HPS : Hid (p = (Sp.split l).map fun f => Ad.clampM (Ad.num f)) := by show _ = _; rw [hspl, ← hp]; rfl
      have HALL : Hid ((Sp.split l).all Ad.isNum = true) := by
        show _ = _
        rw [hspl, List.all_eq_true]
        exact HE.out.2
      clear hown hspl hp
      go_wp2_with fail
      go_loop [8] (fun t => ∃ j : Nat, j ≤ p.length ∧ t = .int .i64 j ∧ Hid (∀ k (h : k < p.length), k < j → Is.as p[k] = true)) (fun t => p.length - (intOf t).toNat)
      case atStart => exact ⟨0, Nat.zero_le _, rfl, hide fun k _ h => absurd h (Nat.not_lt_zero _)⟩
      case round =>
        obtain ⟨j, hj, rfl, HJ⟩ := hrel
        by_cases hjl : j < p.length
        · have hjl' : (j : Int) < (p.length : Int) := by omega
          obtain ⟨b, off, rfl, hrd⟩ := Is.slot_at HS.out hjl
          have e0 := hrd j hjl
          clear hrd
          cases ha : Is.as p[j]
          · obtain ⟨rfl, rfl⟩ := Is.parse_range l HNE.out HALL.out p HPS.out j hjl ha y q HP.out
            have CA := hide (fun W => refAS_is p[j] false ha W)
            clear ha
            generalize p[j] = u at *
            go_wp2_with fail
            refine (CA.out _).mono ?_
            rintro e w2 ⟨rfl, rfl⟩
            go_wp2_with fail
            exact bodyPost_ret (v := .tuple #[.slice none 0 0, .int .i64 7]) (by simp [results, Tryd.results12, go_sem]) rfl (path_none _ _ HBR.out)
          · have CA := hide (fun W => refAS_is p[j] true ha W)
            have HA := hide ha
            clear ha
            generalize hu : p[j] = u at CA e0
            clear hu
            go_wp2_with fail
            refine (CA.out _).mono ?_
            rintro e w2 ⟨rfl, rfl⟩
            go_wp2_with fail
            refine ⟨⟨j + 1, hjl, by simp, hide fun k hk hkj => ?_⟩, by simp [intOf]; omega⟩
            rcases Nat.lt_or_ge k j with h | h
            · exact HJ.out k hk h
            · obtain rfl : k = j := by omega
              exact HA.out
        · obtain rfl : j = p.length := by omega
          rcases Is.parse_end l HNE.out HALL.out p HPS.out (fun k hk => HJ.out k hk hk) y q HP.out with ⟨h16, rfl, rfl⟩ | ⟨h16, rfl, rfl⟩
          · have h16' : (16 : Int) < (p.length : Int) := by omega
            go_wp2_with fail
            exact bodyPost_ret (v := .tuple #[.slice none 0 0, .int .i64 2]) (by simp [results, Tryd.results12, go_sem]) rfl (path_none _ _ HBR.out)
          · have h16' : ¬ (16 : Int) < (y.length : Int) := by omega
            go_wp2_with fail
            exact bodyPost_ret (v := .tuple #[.slice o y.length c, .int .i64 0]) (by simp [results, Tryd.results12, go_sem]) rfl ⟨_, _, rfl, HO.out, HBR.out⟩

theorem refParse_is (s : ByteArray) (y : List Int) (q : Int) (w : World) (hs : s.size ≤ 2000) (h : Is.parse s.data.toList = (y, q)) :
    Calls Tryd.prog 12 #[.string s] w (PathGood w y q) := by
  rcases Nat.eq_zero_or_pos s.size with h0 | h0
  · have hl : s.data.toList = [] := List.length_eq_zero_iff.1 (by rw [Ad.size_list]; exact h0)
    obtain rfl : s = ⟨#[]⟩ := by
      apply ByteArray.ext
      simpa using hl
    unfold Is.parse at h
    rw [hl, if_pos rfl] at h
    obtain ⟨rfl, rfl⟩ : [] = y ∧ (0 : Int) = q := by simpa using h
    exact parse_empty w
  · exact refParse_more s y q w hs h0 h
end Go.Proofs.YtnbedjgjkoeflaaDoor
