import Derived.Test.YtbceoinhmpnjaaaGreatDoorZ1
import Derived.Test.YtbceoinhmpnjaaaGreatDoorY2
/- The program's least of rows and choices; Least. -/
namespace Go.Proofs.YtbceoinhmpnjaaaGreatDoor
open Go.RowKit Go.Sort

theorem sizeRow_app (a : List Nd) (n : Nd) : Nd.sizeRow (a ++ [n]) = Nd.sizeRow a + Nd.size n := by
  induction a with
  | nil => simp [Nd.sizeRow]
  | cons x a ih => simp only [List.cons_append, Nd.sizeRow, ih]; omega
theorem sizeRow_two (a b : List Nd) : Nd.sizeRow (a ++ b) = Nd.sizeRow a + Nd.sizeRow b := by
  induction a with
  | nil => simp [Nd.sizeRow]
  | cons x a ih => simp only [List.cons_append, Nd.sizeRow, ih]; omega
theorem sizeRow_take (l : List Nd) (i : Nat) (h : i < l.length) : Nd.sizeRow (l.take i) + Nd.size l[i] ≤ Nd.sizeRow l ∧ Nd.sizeRow (l.take (i + 1)) = Nd.sizeRow (l.take i) + Nd.size l[i] := by
  have e := sizeRow_app (l.take i) l[i]
  rw [← List.take_succ_eq_append_getElem h] at e
  have := sizeRow_two (l.take (i + 1)) (l.drop (i + 1))
  rw [List.take_append_drop] at this
  exact ⟨by omega, e⟩
theorem sizeRows_get (l : List (List Nd)) (i : Nat) (h : i < l.length) : Nd.sizeRow l[i] ≤ Nd.sizeRows l := by
  induction l generalizing i with
  | nil => simp at h
  | cons x l ih =>
    cases i with
    | zero => simp only [List.getElem_cons_zero, Nd.sizeRows]; omega
    | succ i => have := ih i (by simpa using h); simp only [List.getElem_cons_succ, Nd.sizeRows]; omega

set_option maxHeartbeats 8000000 in
set_option maxRecDepth 100000 in
theorem least_row5 (l : List Nd) (hn : ∀ n ∈ l, LeastC n) (hz : Nd.sizeRow l ≤ 300) (w : World) (cs : List Value) (hA : Pn.At w (.mk 4 [] (l.map Nd.pn)) cs) : LeastAt (Nd.MetRow l) (Nd.sizeRow l) w cs := by
  intro W hW
  obtain ⟨po, pc, uo, uc, b, off, css, rfl, hn2, _, huo, hr, ha⟩ := Pn.inv hA
  have hlen : (l.map Nd.pn).length = l.length := List.length_map ..
  have B0 := hide (balloc (brefl W) (.cells #[.int .i64 4, .slice po ([] : List Prt).length pc, .slice uo (l.map Nd.pn).length uc] 59))
  have HK : Hid (∀ i (h : i < l.length), ∃ x0 x1 x2, uo = some ⟨b, off, none⟩ ∧ Six w b (off + i * 3) [x0, x1, x2] ∧ One3 x0 x1 x2 ∧ LeastAt (Nd.Met l[i]) (Nd.size l[i]) w [x0, x1, x2]) := by
    intro i hi
    have hi' : i < (l.map Nd.pn).length := by omega
    have h1 := ha i hi'
    have h2 := hr i hi'
    obtain ⟨x0, x1, x2, hx⟩ := Pn.len h1
    have e2 : (l.map Nd.pn)[i] = Nd.pn l[i] := by simp
    rw [hx] at h1 h2
    rw [e2] at h1
    refine ⟨x0, x1, x2, ?_, h2, Pn.one h1, hn l[i] (List.getElem_mem hi) (by have := (sizeRow_take l i hi).1; omega) w _ h1⟩
    rcases huo with h | h
    · rw [h] at hi'; simp at hi'
    · exact h
  have HW := hide hW
  have HZ := hide hz
  have hn3 := hn2.2
  rw [hlen] at B0 hn3
  rw [hlen]
  have HS0 : Hid (LeastOf (Nd.MetRow (l.take 0)) []) := by
    refine ⟨?_, fun q _ => cmp_nil q⟩
    simp [Nd.MetRow]
  clear hA hr ha huo hn hn2 hW hlen hz
  go_enter Tryz.func39, Tryz.ntmps39
  go_wp2_with fail
  generalize W.alloc (.cells #[.int .i64 4, .slice po ([] : List Prt).length pc, .slice uo l.length uc] 59) = W1 at *
  go_loopw [3, 22] (fun v3 v22 wr => ∃ (i : Nat) (L : List Int) (o : Option Addr) (c : Nat), v22 = .int .i64 i ∧ v3 = .slice o L.length c ∧ i ≤ l.length ∧ Hid (LeastOf (Nd.MetRow (l.take i)) L) ∧ Hid (L.length ≤ Nd.sizeRow (l.take i)) ∧ Hid (wr.ownsRow W.heap.size 3 1 (.slice o L.length c) L.length (Is.cells L)) ∧ Hid (Below W.heap.size W wr)) (fun _ v22 _ => l.length - (intOf v22).toNat)
  case atStart => exact ⟨0, [], none, 0, rfl, rfl, Nat.zero_le _, HS0, by show 0 ≤ _; omega, ⟨rfl, .inl ⟨rfl, rfl⟩⟩, B0.out⟩
  case round =>
    obtain ⟨i, L, o, c, rfl, rfl, hi, HL, HLN, HO, HBR⟩ := hrel
    by_cases hil : i < l.length
    · have hil' : (i : Int) < (l.length : Int) := by omega
      obtain ⟨x0, x1, x2, hu, h6, ⟨o0, o1, o2⟩, hC⟩ := HK.out i hil
      subst hu
      obtain ⟨e0, e1, e2⟩ := six3_at (six_below (six_below h6 HW.out) HBR.out)
      have s0 := fun w a m => run_store Tryz.prog w a x0 m o0
      have s1 := fun w a m => run_store Tryz.prog w a x1 m o1
      have s2 := fun w a m => run_store Tryz.prog w a x2 m o2
      have CC := hide (hC (wr.alloc (.cells #[x0, x1, x2] 59)) (bthen HW.out (balloc HBR.out _)))
      have B2 := hide (balloc HBR.out (.cells #[x0, x1, x2] 59))
      have HO2 := hide (HO.out.alloc (.cells #[x0, x1, x2] 59))
      have HCV : Hid (∀ M, LeastOf (Nd.Met l[i]) M → LeastOf (Nd.MetRow (l.take (i + 1))) (L ++ M)) := by
        intro M hM
        refine least_iff (least_then HL.out hM) fun q => ?_
        rw [List.take_succ_eq_append_getElem hil, metRow_app]
      have hst := sizeRow_take l i hil
      have HSZ := hide hst
      clear h6 hC hst
      generalize l[i] = y at *
      go_wp2_with fail
      refine CC.out.mono ?_
      rintro e w1 ⟨⟨M, mo, mc, rfl, hM, hMN, hMS, hMC⟩, hb⟩
      have B3 := hide (bthen B2.out hb)
      have HO3 := hide (row_below HO2.out hb)
      have HM := hide (HCV.out M hM)
      have HMS := hide hMS
      have HMC := hide hMC
      have HMN := hide hMN
      have hNN : L.length + M.length ≤ 1000000 := by have := HSZ.out; have := HLN.out; have := HZ.out; omega
      clear hb CC HCV hM hMN hMS hMC e0 e1 e2
      go_wp2_with (at_builtin; go_must (refine append_ints (w0 := W) rfl _ _ rfl _ L.length L rfl HO3.out mo M.length mc M rfl rfl HMS.out HMC.out hNN B3.out ?_))
      intro v' w4 hnew hb4
      obtain ⟨no, nc, rfl⟩ := row_slice hnew
      have HNW := hide hnew
      have B4 := hide hb4
      clear hnew hb4
      go_wp2_with fail
      refine ⟨⟨i + 1, L ++ M, no, nc, by go_num, by simp, by omega, HM, ?_, ?_, B4⟩, by simp [intOf] <;> omega⟩
      · show _ ≤ _
        have := HSZ.out.2
        have h1 := HLN.out
        have h2 := HMN.out
        rw [List.length_append, this]
        omega
      · show World.ownsRow _ _ _ _ _ _ _
        rw [List.length_append]
        exact HNW.out
    · have hil' : ¬ (i : Int) < (l.length : Int) := by omega
      have HE : Hid (LeastOf (Nd.MetRow l) L) := by
        have := HL.out
        rwa [List.take_of_length_le (by omega)] at this
      have HEN : Hid (L.length ≤ Nd.sizeRow l) := by
        have := HLN.out
        rwa [List.take_of_length_le (by omega)] at this
      go_wp2_with fail
      go_ret
      exact ⟨⟨L, o, c, rfl, HE.out, HEN.out, Is.slot_own HO.out, own_came HO.out⟩, HBR.out⟩

set_option maxHeartbeats 8000000 in
set_option maxRecDepth 100000 in
theorem leastOf_is (rows : List (List Nd)) (h0 : rows ≠ []) (N : Nat) (hN : N ≤ 300) (w : World) (uo : Option Addr) (uc b off : Nat) (hn3 : rows.length ≤ 100000)
    (hK : Hid (∀ i (h : i < rows.length), ∃ x0 x1 x2, uo = some ⟨b, off, none⟩ ∧ Six w b (off + i * 3) [x0, x1, x2] ∧ One3 x0 x1 x2 ∧ LeastAt (Nd.MetRow rows[i]) N w [x0, x1, x2])) (W : World) (hW : Below w.heap.size w W) :
    Calls Tryz.prog 52 #[.slice uo rows.length uc] W (LeastPost (Nd.MetRows rows) N W) := by
  have HW := hide hW
  have hpos := List.length_pos_iff.2 h0
  clear hW
  go_enter Tryz.func52, Tryz.ntmps52
  go_wp2_with fail
  go_loopw [3, 9] (fun v3 v9 wr => ∃ (i : Nat) (L : List Int) (o : Option Addr) (c : Nat), v9 = .int .i64 i ∧ v3 = .slice o L.length c ∧ i ≤ rows.length ∧ Hid ((i = 0 ∧ L = []) ∨ (0 < i ∧ LeastOf (Nd.MetRows (rows.take i)) L)) ∧ L.length ≤ N ∧ Hid (Is.slot wr o L ∧ came o c) ∧ Hid (Below W.heap.size W wr)) (fun _ v9 _ => rows.length - (intOf v9).toNat)
  case atStart => exact ⟨0, [], none, 0, rfl, rfl, Nat.zero_le _, .inl ⟨rfl, rfl⟩, Nat.zero_le _, ⟨.inl rfl, ⟨fun _ => rfl, fun ad h => by cases h⟩⟩, brefl _⟩
  case round =>
    obtain ⟨i, L, o, c, rfl, rfl, hi, HL, HLN, HO, HBR⟩ := hrel
    by_cases hil : i < rows.length
    · have hil' : (i : Int) < (rows.length : Int) := by omega
      obtain ⟨x0, x1, x2, hu, h6, ⟨o0, o1, o2⟩, hC⟩ := hK.out i hil
      subst hu
      obtain ⟨e0, e1, e2⟩ := six3_at (six_below (six_below h6 HW.out) HBR.out)
      have s0 := fun w a m => run_store Tryz.prog w a x0 m o0
      have s1 := fun w a m => run_store Tryz.prog w a x1 m o1
      have s2 := fun w a m => run_store Tryz.prog w a x2 m o2
      have CC := hide (hC (wr.alloc (.cells #[x0, x1, x2] 59)) (bthen HW.out (balloc HBR.out _)))
      have B2 := hide (balloc HBR.out (.cells #[x0, x1, x2] 59))
      have HTK : Hid (rows.take (i + 1) = rows.take i ++ [rows[i]]) := by show _ = _; rw [List.take_succ_eq_append_getElem hil]
      clear h6 hC
      generalize rows[i] = y at *
      by_cases hi0 : i = 0
      · subst hi0
        simp only [Nat.zero_mul, Nat.add_zero] at e0 e1 e2
        have HCV : Hid (∀ M, LeastOf (Nd.MetRow y) M → LeastOf (Nd.MetRows (rows.take (0 + 1))) M) := by
          intro M hM
          refine least_iff hM fun q => ?_
          rw [HTK.out, metRows_app]
          simp [Nd.MetRows]
        go_wp2_with fail
        refine CC.out.mono ?_
        rintro e w1 ⟨⟨M, mo, mc, rfl, hM, hMN, hMS, hMC⟩, hb⟩
        have B3 := hide (bthen B2.out hb)
        have HM := hide (HCV.out M hM)
        have HMS := hide (And.intro hMS hMC)
        clear hb CC HCV hM hMS hMC e0 e1 e2
        go_wp2_with fail
        exact ⟨⟨1, M, mo, mc, by go_num, rfl, by omega, .inr ⟨by omega, HM.out⟩, hMN, HMS, B3⟩, by simp [intOf] <;> omega⟩
      · have hi0' : ((i : Int) == 0) = false := by simpa using hi0
        have HLL : Hid (LeastOf (Nd.MetRows (rows.take i)) L) := by
          rcases HL.out with ⟨h, _⟩ | ⟨_, h⟩
          · exact absurd h hi0
          · exact h
        have HCV : Hid (∀ M, LeastOf (Nd.MetRow y) M → LeastOf (Nd.MetRows (rows.take (i + 1))) (if Is.compare M L < 0 then M else L)) := by
          intro M hM
          refine least_iff (least_or HLL.out hM) fun q => ?_
          rw [HTK.out, metRows_app]
        go_wp2_with fail
        refine CC.out.mono ?_
        rintro e w1 ⟨⟨M, mo, mc, rfl, hM, hMN, hMS, hMC⟩, hb⟩
        have B3 := hide (bthen B2.out hb)
        have HM := HCV.out M hM
        have HMS := hide (And.intro hMS hMC)
        have HOS := hide (And.intro (Is.slot_below HO.out.1 ((balloc (brefl _) _).trans (hb.mono (by rw [size_alloc]; omega)))) HO.out.2)
        have CM := hide (Y4.compare_is mo o mc c M L (Is.compare M L) rfl w1 hMS HOS.out.1 (by omega) (by omega))
        by_cases hcmp : Is.compare M L < 0
        · rw [if_pos hcmp] at HM
          have HM2 := hide HM
          clear hb CC HCV hM hMS hMC e0 e1 e2 HM
          generalize Is.compare M L = z at *
          go_wp2_with fail
          refine CM.out.mono ?_
          rintro e w2 ⟨rfl, hb2⟩
          have B4 := hide (bthen B3.out hb2)
          have HMS2 := hide (And.intro (Is.slot_below HMS.out.1 hb2) HMS.out.2)
          clear hb2 CM
          go_wp2_with fail
          exact ⟨⟨i + 1, M, mo, mc, by go_num, rfl, by omega, .inr ⟨by omega, HM2.out⟩, hMN, HMS2, B4⟩, by simp [intOf] <;> omega⟩
        · rw [if_neg hcmp] at HM
          have HM2 := hide HM
          clear hb CC HCV hM hMS hMC e0 e1 e2 HM
          generalize Is.compare M L = z at *
          go_wp2_with fail
          refine CM.out.mono ?_
          rintro e w2 ⟨rfl, hb2⟩
          have B4 := hide (bthen B3.out hb2)
          have HOS2 := hide (And.intro (Is.slot_below HOS.out.1 hb2) HOS.out.2)
          clear hb2 CM
          go_wp2_with fail
          exact ⟨⟨i + 1, L, o, c, by go_num, rfl, by omega, .inr ⟨by omega, HM2.out⟩, HLN, HOS2, B4⟩, by simp [intOf] <;> omega⟩
    · have hil' : ¬ (i : Int) < (rows.length : Int) := by omega
      have HE : Hid (LeastOf (Nd.MetRows rows) L) := by
        rcases HL.out with ⟨h, _⟩ | ⟨_, h⟩
        · omega
        · rwa [List.take_of_length_le (by omega)] at h
      go_wp2_with fail
      go_ret
      exact ⟨⟨L, o, c, rfl, HE.out, HLN, HO.out.1, HO.out.2⟩, HBR.out⟩
end Go.Proofs.YtbceoinhmpnjaaaGreatDoor

/- The program's Least. -/
namespace Go.Proofs.YtbceoinhmpnjaaaGreatDoor
open Go.RowKit Go.Sort

set_option maxHeartbeats 8000000 in
set_option maxRecDepth 100000 in
theorem least_rows5 (rows : List (List Nd)) (h0 : rows ≠ []) (hn : ∀ l ∈ rows, ∀ n ∈ l, LeastC n) (hz : Nd.sizeRows rows ≤ 300) (w : World) (cs : List Value) (hA : Pn.At w (.mk 3 [] (Nd.pnRows rows)) cs) : LeastAt (Nd.MetRows rows) (Nd.sizeRows rows) w cs := by
  intro W hW
  obtain ⟨po, pc, uo, uc, b, off, css, rfl, hn2, _, huo, hr, ha⟩ := Pn.inv hA
  have hlen := pnRows_len rows
  have B0 := hide (balloc (brefl W) (.cells #[.int .i64 3, .slice po ([] : List Prt).length pc, .slice uo (Nd.pnRows rows).length uc] 59))
  have HK : Hid (∀ i (h : i < rows.length), ∃ x0 x1 x2, uo = some ⟨b, off, none⟩ ∧ Six w b (off + i * 3) [x0, x1, x2] ∧ One3 x0 x1 x2 ∧ LeastAt (Nd.MetRow rows[i]) (Nd.sizeRows rows) w [x0, x1, x2]) := by
    intro i hi
    have hi' : i < (Nd.pnRows rows).length := by omega
    have h1 := ha i hi'
    have h2 := hr i hi'
    obtain ⟨x0, x1, x2, hx⟩ := Pn.len h1
    have e2 : (Nd.pnRows rows)[i] = .mk 4 [] (rows[i].map Nd.pn) := by
      have := Nd.pnRows_map rows
      simp only [this, List.getElem_map]
    rw [hx] at h1 h2
    rw [e2] at h1
    have hs := sizeRows_get rows i hi
    refine ⟨x0, x1, x2, ?_, h2, Pn.one h1, fun W2 hW2 => (least_row5 rows[i] (hn rows[i] (List.getElem_mem hi)) (by omega) w _ h1 W2 hW2).mono ?_⟩
    · rcases huo with h | h
      · rw [h] at hi'; simp at hi'
      · exact h
    · rintro e w' ⟨⟨L, o, c, a1, a2, a3, a4⟩, hb⟩
      exact ⟨⟨L, o, c, a1, a2, by omega, a4⟩, hb⟩
  have CL := hide (leastOf_is rows h0 (Nd.sizeRows rows) hz w uo uc b off (by have := hn2.2; omega) HK _ (bthen hW B0.out))
  rw [hlen] at B0 CL ⊢
  clear hA hr ha huo hn hn2 hW hlen hz HK
  go_enter Tryz.func39, Tryz.ntmps39
  go_wp2_with fail
  refine CL.out.mono ?_
  rintro e w1 ⟨⟨L, o, c, rfl, hL, hN, hS⟩, hb⟩
  have B1 := hide (bthen B0.out hb)
  have HL := hide hL
  have HS := hide hS
  clear hb CL hL hS
  go_wp2_with fail
  go_ret
  exact ⟨⟨L, o, c, rfl, HL.out, hN, HS.out⟩, B1.out⟩
mutual
theorem all_least : ∀ (d : Nat) (n : Nd), Nd.Good d n → LeastC n
  | d, .num dot set ps, h => least_num5 d dot set ps h
  | 0, .ch rows, h => by simp only [Nd.Good] at h
  | d + 1, .ch rows, h => fun hz w cs hA => by
    simp only [Nd.Good] at h
    rw [Nd.pn] at hA
    have e : Nd.Met (.ch rows) = Nd.MetRows rows := by funext q; simp only [Nd.Met]
    have e2 : Nd.size (.ch rows) = Nd.sizeRows rows := by rw [Nd.size]
    rw [e, e2]
    rw [e2] at hz
    exact least_rows5 rows h.1 (all_leastRows d rows h.2) hz w cs hA
  | d, .st k n, h => by
    have h' : (k = 3 ∨ k = 4 ∨ k = 5) ∧ (∀ j m, n ≠ .st j m) ∧ Nd.Good d n := by
      cases d <;> simpa only [Nd.Good] using h
    exact least_st5 k h'.1 n (all_least d n h'.2.2)
theorem all_leastRow : ∀ (d : Nat) (l : List Nd), Nd.GoodRow d l → ∀ n ∈ l, LeastC n
  | _, [], _ => fun n hn => by simp at hn
  | d, m :: r, h => fun n hn => by
    simp only [Nd.GoodRow] at h
    rcases List.mem_cons.1 hn with e | hn
    · rw [e]
      exact all_least d m h.1
    · exact all_leastRow d r h.2 n hn
theorem all_leastRows : ∀ (d : Nat) (l : List (List Nd)), Nd.GoodRows d l → ∀ r ∈ l, ∀ n ∈ r, LeastC n
  | _, [], _ => fun r hr => by simp at hr
  | d, m :: l, h => fun r hr => by
    simp only [Nd.GoodRows] at h
    rcases List.mem_cons.1 hr with e | hr
    · rw [e]
      exact all_leastRow d m h.1
    · exact all_leastRows d l h.2 r hr
end
theorem parse_size5 {s : Bs} {f l : Bool} {rows : List (List Nd)} (h : Px.parse s = .ok (f, l, rows)) : Nd.sizeRows rows ≤ 64 ∧ rows ≠ [] := by
  obtain ⟨k, hc, _, _, _, hl⟩ := parse_parts h
  have h1 := (choice_pays 8 _ _ _ hc).2
  have h2 := (Px.next_suf s).length_le
  have hg := parse_good h
  rw [Nd.Good] at hg
  refine ⟨?_, hg.1⟩
  split at h1 <;> omega
def LeastGood (rows : List (List Nd)) (m : Int) (W : World) (e : Ending) (w' : World) : Prop :=
  (∃ (L : List Int) (o : Option Addr) (c : Nat), LeastOf (Nd.MetRows rows) L ∧ L.length ≤ 300 ∧ Is.slot w' o L ∧ ((((L.length : Int) ≤ max 0 (min m 16)) ∧ e = .returned (.tuple #[.slice o L.length c, .bool true])) ∨ ((max 0 (min m 16) < (L.length : Int)) ∧ e = .returned (.tuple #[.slice none 0 0, .bool false])))) ∧ Below W.heap.size W w'

set_option maxHeartbeats 8000000 in
theorem least_is5 (v : Value) (x : Xp) (m : Int) (W : World) (h : Rep5 W v x) : Calls Tryz.prog 21 #[v, .int .i64 m] W (LeastGood x.2.2 m W) := by
  obtain ⟨a, x0, x1, x2, rfl, hE, hA, s, hs⟩ := h
  obtain ⟨f, l, rows⟩ := x
  obtain ⟨⟨d, hg⟩, _, _⟩ := parse_bounds hs
  obtain ⟨hz, h0⟩ := parse_size5 hs
  have CL := hide (least_rows5 rows h0 (all_leastRows d rows hg) (by omega) W _ hA W (brefl W))
  obtain ⟨c0, c1, c2, c3, c4⟩ := hE
  clear hA hs hg h0
  go_enter Tryz.func21, Tryz.ntmps21
  go_wp2_with fail
  refine CL.out.mono ?_
  rintro e w1 ⟨⟨L, o, c, rfl, hL, hN, hS, hC⟩, hb⟩
  have B1 := hide hb
  have HL := hide hL
  have HS := hide hS
  have hN2 : L.length ≤ 300 := by omega
  clear hb CL hL hS hC
  have hmm : ∀ z : Int, min (max z 0) 16 = max 0 (min z 16) := fun z => by omega
  go_wp2_with fail
  · rename_i hlt
    exact bodyPost_ret (results_tmp2 Tryz.results21 _ _ _) rfl ⟨⟨L, o, c, HL.out, hN2, HS.out, .inr ⟨hlt, rfl⟩⟩, B1.out⟩
  · rename_i hle
    exact bodyPost_ret (results_tmp2 Tryz.results21 _ _ _) rfl ⟨⟨L, o, c, HL.out, hN2, HS.out, .inl ⟨hle, rfl⟩⟩, B1.out⟩
end Go.Proofs.YtbceoinhmpnjaaaGreatDoor

/- What meets a node is made of numbers of ASes. -/
namespace Go.Proofs.YtbceoinhmpnjaaaGreatDoor
open Go.RowKit Go.Sort

def AllAs (q : List Int) : Prop := ∀ x ∈ q, Is.as x = true
theorem AllAs.app {a b : List Int} (ha : AllAs a) (hb : AllAs b) : AllAs (a ++ b) := fun x hx => by
  rcases List.mem_append.1 hx with h | h
  · exact ha x h
  · exact hb x h
theorem AllAs.nil : AllAs [] := fun x hx => by simp at hx
theorem many_as {P : List Int → Prop} (h : ∀ q, P q → AllAs q) {q : List Int} (hq : Many P q) : AllAs q := by
  induction hq with
  | nil => exact AllAs.nil
  | cons ha _ ih => exact (h _ ha).app ih
mutual
theorem met_as : ∀ (d : Nat) (n : Nd), Nd.Good d n → ∀ q, Nd.Met n q → AllAs q
  | d, .num dot set ps, h => fun q hq => by
    have hg' : (dot = true ∧ set = false ∧ ps = [(1, 65535, true)]) ∨ (dot = false ∧ set = true ∧ ps ≠ [] ∧ ∀ p ∈ ps, Px.goodPair p) ∨ (dot = false ∧ set = false ∧ ∃ x, ps = [(x, x, false)] ∧ Is.as x = true) := by
      cases d <;> simpa only [Nd.Good] using h
    rw [Nd.Met] at hq
    obtain ⟨n, rfl, r, hr, h1, h2⟩ := hq
    intro x hx
    simp only [List.mem_singleton] at hx
    subst hx
    rw [Is.as_iff]
    rcases hg' with ⟨_, _, rfl⟩ | ⟨_, _, _, hg⟩ | ⟨_, _, y, rfl, hy⟩
    · simp at hr; subst hr; simp only at h1 h2; omega
    · have a1 := (Is.as_iff _).1 (hg r hr).1
      have a2 := (Is.as_iff _).1 (hg r hr).2.1
      omega
    · simp at hr; subst hr
      have a1 := (Is.as_iff _).1 hy
      simp only at h1 h2
      omega
  | 0, .ch rows, h => by simp only [Nd.Good] at h
  | d + 1, .ch rows, h => fun q hq => by
    simp only [Nd.Good] at h
    rw [Nd.Met] at hq
    exact met_asRows d rows h.2 q hq
  | d, .st k n, h => fun q hq => by
    have h' : (k = 3 ∨ k = 4 ∨ k = 5) ∧ (∀ j m, n ≠ .st j m) ∧ Nd.Good d n := by
      cases d <;> simpa only [Nd.Good] using h
    have ih := met_as d n h'.2.2
    rw [Nd.Met] at hq
    split at hq
    · rcases hq with rfl | hq
      · exact AllAs.nil
      · exact ih q hq
    · split at hq
      · exact many_as ih hq
      · exact many_as ih (Many.plus hq)
theorem met_asRow : ∀ (d : Nat) (l : List Nd), Nd.GoodRow d l → ∀ q, Nd.MetRow l q → AllAs q
  | _, [], _ => fun q hq => by rw [Nd.MetRow] at hq; subst hq; exact AllAs.nil
  | d, m :: r, h => fun q hq => by
    simp only [Nd.GoodRow] at h
    rw [Nd.MetRow] at hq
    obtain ⟨a, b, rfl, h1, h2⟩ := hq
    exact (met_as d m h.1 a h1).app (met_asRow d r h.2 b h2)
theorem met_asRows : ∀ (d : Nat) (l : List (List Nd)), Nd.GoodRows d l → ∀ q, Nd.MetRows l q → AllAs q
  | _, [], _ => fun q hq => by simp only [Nd.MetRows] at hq
  | d, m :: r, h => fun q hq => by
    simp only [Nd.GoodRows] at h
    rw [Nd.MetRows] at hq
    rcases hq with hq | hq
    · exact met_asRow d m h.1 q hq
    · exact met_asRows d r h.2 q hq
end
theorem least_may {s : Bs} {x : Xp} (h : Px.parse s = .ok x) {L : List Int} (hL : Nd.MetRows x.2.2 L) (hl : L.length ≤ 16) : Is.may L = true := by
  obtain ⟨f, l, rows⟩ := x
  obtain ⟨⟨d, hg⟩, _, _⟩ := parse_bounds h
  refine (Is.may_iff L).2 ⟨hl, fun j hj => met_asRows d rows hg L hL _ (List.getElem_mem hj)⟩
end Go.Proofs.YtbceoinhmpnjaaaGreatDoor

