import Derived.Test.YtkhmhmopcofejaaQE
import Derived.Test.YtkhmhmopcofejaaCG1
import Derived.Test.YtkhmhmopcofejaaH1
/- The contracts of wire's numbers, path and comms. -/
namespace Go.Proofs.Ytkhmhmopcofejaa
open Go.RowKit Go.Sort

/-- A number behind numbers. -/
theorem app_int {w : World} {ops : Array Oper} {rest : List Oper} {o : Oper} {a : Act} {Q : Exit → Act → World → Prop} (hgd : o.guard = none) (s x : Operand)
    (ho : o.op = .call { callee := .builtin .append, args := #[s, x], argTypes := #[23, 23] }) (B : Nat) (v : Value) (xs : List Int) (hs : a.eval s = v) (hown : w.ownsRow B 3 1 v xs.length (Is.cells xs))
    (p : Int) (g c : Nat) (hx : a.eval x = .slice (some ⟨g, 0, none⟩) 1 c) (h0 : w.cell? ⟨g, 0, none⟩ = some (.int .i64 p)) (hn : xs.length ≤ 100000) (hB : B ≤ w.heap.size)
    (h : ∀ v' w', w'.ownsRow B 3 1 v' (xs ++ [p]).length (Is.cells (xs ++ [p])) → w.grownBy w' v.ownBlock → wpList Try.prog ops Q rest (a.put o.dst v') w') : wpList Try.prog ops Q (o :: rest) a w := by
  obtain ⟨i0, hi, hz0, hz1, hz2⟩ := info_partsI
  refine wpList_append_own w hgd s x 23 ho B 3 i0 _ 1 8 Try.underlying23 hi hz0 hz1 hz2 rfl (by decide) v xs.length (Is.cells xs) hs hown ⟨g, 0, none⟩ 1 c (Is.cells [p]) hx rfl ?_ (Is.cells_one _) (by unfold maxLen; omega) (by omega) hB ?_
  · intro j u hu
    match j, hu with
    | 0, hu => simp [Is.cells] at hu; subst hu; simpa [Addr.add] using h0
    | j + 1, hu => simp [Is.cells] at hu
  · intro v' w' ho' hg _
    refine h v' w' ?_ hg
    rw [List.length_append, Is.cells_app]
    exact ho'
theorem infoCm : (Try.prog.info? 94).map (fun i => (i.zero, i.size, i.bytes)) = some (some (.agg #[.int .i64 0, .int .i64 0]), 2, 16) := by kernel_rfl
theorem info_partsCm : ∃ i0 : TypeInfo, Try.prog.info? 94 = some i0 ∧ i0.zero = some (.agg #[.int .i64 0, .int .i64 0]) ∧ i0.size = 2 ∧ i0.bytes = 16 := by
  have h := infoCm
  cases hi : Try.prog.info? 94 with
  | none => rw [hi] at h; cases h
  | some i0 =>
    rw [hi] at h
    simp only [Option.map_some, Option.some.injEq, Prod.mk.injEq] at h
    exact ⟨i0, rfl, h.1, h.2.1, h.2.2⟩
/-- A community behind communities. -/
theorem app_comm {w : World} {ops : Array Oper} {rest : List Oper} {o : Oper} {a : Act} {Q : Exit → Act → World → Prop} (hgd : o.guard = none) (s x : Operand)
    (ho : o.op = .call { callee := .builtin .append, args := #[s, x], argTypes := #[24, 24] }) (B : Nat) (v : Value) (xs : List Cm.Co.C) (hs : a.eval s = v) (hown : w.ownsRow B 94 2 v xs.length (Cm.Co.cells xs))
    (p : Cm.Co.C) (g c : Nat) (hx : a.eval x = .slice (some ⟨g, 0, none⟩) 1 c) (h0 : w.cell? ⟨g, 0, none⟩ = some (.int .i64 p.1)) (h1 : w.cell? ⟨g, 1, none⟩ = some (.int .i64 p.2)) (hn : xs.length ≤ 100000) (hB : B ≤ w.heap.size)
    (h : ∀ v' w', w'.ownsRow B 94 2 v' (xs ++ [p]).length (Cm.Co.cells (xs ++ [p])) → w.grownBy w' v.ownBlock → wpList Try.prog ops Q rest (a.put o.dst v') w') : wpList Try.prog ops Q (o :: rest) a w := by
  obtain ⟨i0, hi, hz0, hz1, hz2⟩ := info_partsCm
  refine wpList_append_own w hgd s x 24 ho B 94 i0 _ 2 16 Try.underlying24 hi hz0 hz1 hz2 rfl (by decide) v xs.length (Cm.Co.cells xs) hs hown ⟨g, 0, none⟩ 1 c (Cm.Co.enc p) hx rfl ?_ ?_ (by unfold maxLen; omega) (by omega) hB ?_
  · intro j u hu
    match j, hu with
    | 0, hu => simp [Cm.Co.enc] at hu; subst hu; simpa [Addr.add] using h0
    | 1, hu => simp [Cm.Co.enc] at hu; subst hu; simpa [Addr.add] using h1
    | j + 2, hu => simp [Cm.Co.enc] at hu
  · intro u hu
    simp [Cm.Co.enc] at hu
    rcases hu with rfl | rfl <;> rfl
  · intro v' w' ho' hg _
    refine h v' w' ?_ hg
    rw [List.length_append, show Cm.Co.cells (xs ++ [p]) = Cm.Co.cells xs ++ Cm.Co.enc p by simp [Cm.Co.cells]]
    exact ho'
/-- The first numbers of bytes. -/
def numsI (m : Nat) (e : List UInt8) (i : Nat) : List Int := (List.range i).map fun j => ((val ((e.drop (j * m)).take m) : Nat) : Int)
theorem numsI_succ (m : Nat) (e : List UInt8) (i : Nat) : numsI m e (i + 1) = numsI m e i ++ [((val ((e.drop (i * m)).take m) : Nat) : Int)] := by simp [numsI, List.range_succ]
theorem numsI_length (m : Nat) (e : List UInt8) (i : Nat) : (numsI m e i).length = i := by simp [numsI]
def Nums (w : World) (rb _b _off _c : Nat) (l : List UInt8) (k m : Nat) (e : Ending) (w' : World) : Prop :=
  (∃ v i, e = .returned v ∧ (l.drop k).length = i * m ∧ w'.ownsRow w.heap.size 3 1 v (numsI m (l.drop k) i).length (Is.cells (numsI m (l.drop k) i)) ∧ w.grownBy w' (some rb)) ∨ (e = pan ∧ (l.drop k).length % m ≠ 0 ∧ w.grownBy w' (some rb))
set_option maxHeartbeats 2000000 in
set_option maxRecDepth 100000 in
theorem numbers_is (rb b off c : Nat) (l : List UInt8) (k m : Nat) (w : World) (hR : Rdr w rb b off c l k) (hm0 : 0 < m) (hm : m ≤ 4) :
    Calls Try.prog 89 #[.pointer (some ⟨rb, 0, none⟩), .int .i64 m] w (Nums w rb b off c l k m) := by
  have HR := hide hR
  have HRB : Hid (rb < w.heap.size ∧ b < w.heap.size ∧ rb ≠ b) := ⟨heap_lt hR.cell, hR.lt, hR.ne⟩
  have hln := hR.len
  have hkl := hR.le
  have HM := hide (And.intro hm0 hm)
  clear hR
  go_enter Try.func89, Try.ntmps89
  go_wp2_with fail
  go_loopw [5] (fun v5 wr => ∃ i : Nat, Hid (wr.ownsRow w.heap.size 3 1 v5 (numsI m (l.drop k) i).length (Is.cells (numsI m (l.drop k) i))) ∧ Hid (Rdr wr rb b off c l (k + i * m)) ∧ w.grownBy wr (some rb)) (fun _ wr => l.length - (intOf ((wr.cell? ⟨rb, 1, none⟩).getD undef)).toNat)
  case atStart => exact ⟨0, World.ownsRow_nil w _ 3 1, (by show Rdr _ _ _ _ _ _ _; rw [Nat.zero_mul, Nat.add_zero]; exact HR.out), grown_refl w _⟩
  case round =>
    obtain ⟨i, HOW, HRD, hgr⟩ := hrel
    have HGR := hide hgr
    clear hgr
    have CL := hide (left_is rb b off c l (k + i * m) wr HRD.out)
    have hk1 := HRD.out.le
    obtain ⟨x0, c1', _, _⟩ := two_cells HRD.out.cell
    clear x0
    have him : i * m + m = (i + 1) * m := by rw [Nat.add_mul, Nat.one_mul]
    have hie : i ≤ i * m := Nat.le_mul_of_pos_right i hm0
    obtain ⟨k', hk'⟩ : ∃ k', k + i * m = k' := ⟨_, rfl⟩
    rw [hk'] at CL hk1 c1'
    have HK := hide hk'
    have hi1 : i ≤ 100000 := by omega
    go_wp2_with fail
    refine CL.out.mono ?_
    rintro e W0 ⟨rfl, b0⟩
    have R0 := hide (hk' ▸ HRD.out.below b0)
    have G0 := hide (grown_below HGR.out b0)
    have O0 := hide (own2_below HOW.out b0)
    clear b0 CL HRD HGR HOW hk'
    by_cases hlt : k' < l.length
    · have hlt' : (0 : Int) < (l.length : Int) - (k' : Int) := by omega
      by_cases hen : k' + m ≤ l.length
      · have CX := hide (next_ok rb b off c l k' m W0 R0.out hm hen)
        clear hlt
        go_wp2_with fail
        refine CX.out.mono ?_
        rintro e w1 ⟨rfl, r1, g1⟩
        have HV : Hid (val ((l.drop k').take m) = val (((l.drop k).drop (i * m)).take m)) := by show _ = _; rw [List.drop_drop, HK.out]
        rw [HV.out]
        have OS := hide (numsI_succ m (l.drop k) i)
        generalize val (((l.drop k).drop (i * m)).take m) = nv at *
        have R1 := hide r1
        have G1 := hide (grown_trans G0.out (nx_refl _ _) g1)
        have O1 := hide (O0.out.kept g1 (.inr (fun e => by have := (O0.out.lt rb e).1; have := HRB.out; omega)))
        have A1 := hide (balloc (brefl w1) (.cells #[.int .i64 (nv : Int)] 3))
        have O2 := hide (own2_below O1.out A1.out)
        have hB2 : w.heap.size ≤ (w1.alloc (.cells #[.int .i64 (nv : Int)] 3)).heap.size := Nat.le_trans G1.out.size A1.out.size
        clear r1 g1 CX R0 G0 O0
        go_wp2_with (at_builtin; go_must (refine app_int rfl _ _ rfl w.heap.size u5 (numsI m (l.drop k) i) rfl O2.out (nv : Int) w1.heap.size 1 rfl (by simp) (by rw [numsI_length]; omega) hB2 ?_))
        intro v3 w3 o3 g3
        have O3 : Hid (w3.ownsRow w.heap.size 3 1 v3 (numsI m (l.drop k) (i + 1)).length (Is.cells (numsI m (l.drop k) (i + 1)))) := by rw [OS.out]; show World.ownsRow _ _ _ _ _ _ _; rw [List.length_append]; exact o3
        have G3 := hide (grown_own (grown_alloc G1.out (.cells #[.int .i64 (nv : Int)] 3)) g3 (fun j hj => (O2.out.lt j hj).1))
        have R3 := hide (R1.out.kept (grown_trans (grown_of_below (r := u5.ownBlock) A1.out) (nx_refl _ _) g3) (fun e => by have := (O1.out.lt rb e.symm).1; have := HRB.out; omega) (fun e => by have := (O1.out.lt b e.symm).1; have := HRB.out; omega))
        obtain ⟨y0, y1, _, _⟩ := two_cells R3.out.cell
        have R4 : Hid (Rdr w3 rb b off c l (k + (i + 1) * m)) := by rw [← him, ← Nat.add_assoc, HK.out]; exact R3.out
        clear o3 g3 y0 R3 R1 G1 O1 O2 A1 him
        go_wp2_with fail
        refine ⟨⟨i + 1, O3, R4, G3.out⟩, ?_⟩
        rw [y1, c1']
        simp [intOf]
        omega
      · have CX := hide (next_no rb b off c l k' m W0 R0.out (by omega) (by omega))
        have HN : Hid ((l.drop k).length % m ≠ 0) := by
          intro hz
          rw [List.length_drop] at hz
          have e := Nat.div_add_mod (l.length - k) m
          rw [hz, Nat.add_zero] at e
          have h1 : i * m < m * ((l.length - k) / m) := by have := HK.out; omega
          have h2 : m * ((l.length - k) / m) < (i + 1) * m := by have := HK.out; omega
          rw [Nat.mul_comm m] at h1 h2
          have h3 := Nat.lt_of_mul_lt_mul_right h1
          have h4 := Nat.lt_of_mul_lt_mul_right h2
          omega
        clear hlt
        go_wp2_with fail
        refine CX.out.mono ?_
        rintro e w1 ⟨rfl, g1⟩
        exact ⟨rfl, .inr ⟨rfl, HN.out, grown_trans G0.out (nx_refl _ _) g1⟩⟩
    · have hlt' : ¬ (0 : Int) < (l.length : Int) - (k' : Int) := by omega
      have HL : Hid ((l.drop k).length = i * m) := by show _ = _; rw [List.length_drop]; have := HK.out; omega
      clear hlt
      go_wp2_with fail
      go_ret
      exact .inl ⟨_, i, rfl, HL.out, O0.out, G0.out⟩
def commsI (e : List UInt8) (i : Nat) : List Cm.Co.C := (List.range i).map fun j => (((val ((e.drop (j * 4)).take 2) : Nat) : Int), ((val ((e.drop (j * 4 + 2)).take 2) : Nat) : Int))
theorem commsI_succ (e : List UInt8) (i : Nat) : commsI e (i + 1) = commsI e i ++ [(((val ((e.drop (i * 4)).take 2) : Nat) : Int), ((val ((e.drop (i * 4 + 2)).take 2) : Nat) : Int))] := by simp [commsI, List.range_succ]
theorem commsI_length (e : List UInt8) (i : Nat) : (commsI e i).length = i := by simp [commsI]
def Comms (w : World) (rb : Nat) (l : List UInt8) (e : Ending) (w' : World) : Prop :=
  (∃ v i, e = .returned v ∧ l.length = i * 4 ∧ w'.ownsRow w.heap.size 94 2 v (commsI l i).length (Cm.Co.cells (commsI l i)) ∧ w.grownBy w' (some rb)) ∨ (e = pan ∧ l.length % 4 ≠ 0 ∧ w.grownBy w' (some rb))
set_option maxHeartbeats 2000000 in
set_option maxRecDepth 100000 in
theorem comms_is (rb b off c : Nat) (l : List UInt8) (w : World) (hR : Rdr w rb b off c l 0) :
    Calls Try.prog 88 #[.pointer (some ⟨rb, 0, none⟩)] w (Comms w rb l) := by
  have HR := hide hR
  have HRB : Hid (rb < w.heap.size ∧ b < w.heap.size ∧ rb ≠ b) := ⟨heap_lt hR.cell, hR.lt, hR.ne⟩
  have hln := hR.len
  clear hR
  go_enter Try.func88, Try.ntmps88
  go_wp2_with fail
  go_loopw [3] (fun v3 wr => ∃ i : Nat, Hid (wr.ownsRow w.heap.size 94 2 v3 (commsI l i).length (Cm.Co.cells (commsI l i))) ∧ Hid (Rdr wr rb b off c l (i * 4)) ∧ w.grownBy wr (some rb)) (fun _ wr => l.length - (intOf ((wr.cell? ⟨rb, 1, none⟩).getD undef)).toNat)
  case atStart => exact ⟨0, World.ownsRow_nil w _ 94 2, (by show Rdr _ _ _ _ _ _ _; rw [Nat.zero_mul]; exact HR.out), grown_refl w _⟩
  case round =>
    obtain ⟨i, HOW, HRD, hgr⟩ := hrel
    have HGR := hide hgr
    clear hgr
    have CL := hide (left_is rb b off c l (i * 4) wr HRD.out)
    have hk1 := HRD.out.le
    obtain ⟨x0, c1', _, _⟩ := two_cells HRD.out.cell
    clear x0
    obtain ⟨k', hk'⟩ : ∃ k', i * 4 = k' := ⟨_, rfl⟩
    rw [hk'] at CL hk1 c1'
    have HK := hide hk'
    have hi1 : i ≤ 100000 := by omega
    go_wp2_with fail
    refine CL.out.mono ?_
    rintro e W0 ⟨rfl, b0⟩
    have R0 := hide (hk' ▸ HRD.out.below b0)
    have G0 := hide (grown_below HGR.out b0)
    have O0 := hide (own2_below HOW.out b0)
    clear b0 CL HRD HGR HOW hk'
    by_cases hlt : k' < l.length
    · have hlt' : (0 : Int) < (l.length : Int) - (k' : Int) := by omega
      have HN : Hid (l.length < k' + 4 → l.length % 4 ≠ 0) := fun h hz => by have := HK.out; omega
      by_cases hen : k' + 2 ≤ l.length
      · have CX := hide (next_ok rb b off c l k' 2 W0 R0.out (by decide) hen)
        clear hlt
        go_wp2_with fail
        refine CX.out.mono ?_
        rintro e w1 ⟨rfl, r1, g1⟩
        have HV : Hid (val ((l.drop k').take 2) = val ((l.drop (i * 4)).take 2)) := by show _ = _; rw [HK.out]
        rw [HV.out]
        have R1 := hide r1
        have G1 := hide (grown_trans G0.out (nx_refl _ _) g1)
        have O1 := hide (O0.out.kept g1 (.inr (fun e => by have := (O0.out.lt rb e).1; have := HRB.out; omega)))
        clear r1 g1 CX R0 G0 O0
        by_cases hen2 : k' + 2 + 2 ≤ l.length
        · have CY := hide (next_ok rb b off c l (k' + 2) 2 w1 R1.out (by decide) hen2)
          have HV2 : Hid (val ((l.drop (k' + 2)).take 2) = val ((l.drop (i * 4 + 2)).take 2)) := by show _ = _; rw [HK.out]
          rw [HV2.out] at CY
          have OS := hide (commsI_succ l i)
          clear HV HV2
          generalize val ((l.drop (i * 4)).take 2) = na at *
          generalize val ((l.drop (i * 4 + 2)).take 2) = nb at *
          go_wp2_with fail
          refine CY.out.mono ?_
          rintro e w2 ⟨rfl, r2, g2⟩
          have R2 := hide r2
          have G2 := hide (grown_trans G1.out (nx_refl _ _) g2)
          have O2 := hide (O1.out.kept g2 (.inr (fun e => by have := (O1.out.lt rb e).1; have := HRB.out; omega)))
          have A2 := hide (balloc (brefl w2) (.cells #[.int .i64 (na : Int), .int .i64 (nb : Int)] 94))
          have O3 := hide (own2_below O2.out A2.out)
          have hB3 : w.heap.size ≤ (w2.alloc (.cells #[.int .i64 (na : Int), .int .i64 (nb : Int)] 94)).heap.size := Nat.le_trans G2.out.size A2.out.size
          clear r2 g2 CY R1 G1 O1
          go_wp2_with (at_builtin; go_must (refine app_comm rfl _ _ rfl w.heap.size u3 (commsI l i) rfl O3.out ((na : Int), (nb : Int)) w2.heap.size 1 rfl (by simp) (by simp) (by rw [commsI_length]; omega) hB3 ?_))
          intro v4 w4 o4 g4
          have O4 : Hid (w4.ownsRow w.heap.size 94 2 v4 (commsI l (i + 1)).length (Cm.Co.cells (commsI l (i + 1)))) := by rw [OS.out]; show World.ownsRow _ _ _ _ _ _ _; rw [List.length_append]; exact o4
          have G4 := hide (grown_own (grown_alloc G2.out (.cells #[.int .i64 (na : Int), .int .i64 (nb : Int)] 94)) g4 (fun j hj => (O3.out.lt j hj).1))
          have R4 := hide (R2.out.kept (grown_trans (grown_of_below (r := u3.ownBlock) A2.out) (nx_refl _ _) g4) (fun e => by have := (O2.out.lt rb e.symm).1; have := HRB.out; omega) (fun e => by have := (O2.out.lt b e.symm).1; have := HRB.out; omega))
          obtain ⟨y0, y1, _, _⟩ := two_cells R4.out.cell
          have R5 : Hid (Rdr w4 rb b off c l ((i + 1) * 4)) := by rw [show (i + 1) * 4 = k' + 2 + 2 by have := HK.out; omega]; exact R4.out
          clear o4 g4 y0 R4 R2 G2 O2 O3 A2
          go_wp2_with fail
          refine ⟨⟨i + 1, O4, R5, G4.out⟩, ?_⟩
          rw [y1, c1']
          simp [intOf]
          omega
        · have CY := hide (next_no rb b off c l (k' + 2) 2 w1 R1.out (by omega) (by omega))
          go_wp2_with fail
          refine CY.out.mono ?_
          rintro e w2 ⟨rfl, g2⟩
          exact ⟨rfl, .inr ⟨rfl, HN.out (by omega), grown_trans G1.out (nx_refl _ _) g2⟩⟩
      · have CX := hide (next_no rb b off c l k' 2 W0 R0.out (by omega) (by omega))
        clear hlt
        go_wp2_with fail
        refine CX.out.mono ?_
        rintro e w1 ⟨rfl, g1⟩
        exact ⟨rfl, .inr ⟨rfl, HN.out (by omega), grown_trans G0.out (nx_refl _ _) g1⟩⟩
    · have hlt' : ¬ (0 : Int) < (l.length : Int) - (k' : Int) := by omega
      have HL : Hid (l.length = i * 4) := by show _ = _; have := HK.out; omega
      clear hlt
      go_wp2_with fail
      go_ret
      exact .inl ⟨_, i, rfl, HL.out, O0.out, G0.out⟩
/-- The path that bytes are read as. -/
def pathR (d : List UInt8) : Option (List Int) := if d = [] then some [] else if d.length < 2 then none else if (d.length - 2) % 2 = 0 then some (numsI 2 (d.drop 2) ((d.length - 2) / 2)) else none
def Paths (w : World) (rb : Nat) (l : List UInt8) (e : Ending) (w' : World) : Prop :=
  (∃ v L, e = .returned v ∧ pathR l = some L ∧ w'.ownsRow w.heap.size 3 1 v L.length (Is.cells L) ∧ w.grownBy w' (some rb)) ∨ (e = pan ∧ pathR l = none ∧ w.grownBy w' (some rb))
theorem own_down {w : World} {B B' e s n : Nat} {v : Value} {xs : List Value} (h : w.ownsRow B e s v n xs) (hb : B' ≤ B) : w.ownsRow B' e s v n xs := by
  refine ⟨h.1, ?_⟩
  rcases h.2 with h | ⟨g, cap, cur, h1, h2, h3⟩
  · exact .inl h
  · exact .inr ⟨g, cap, cur, h1, Nat.le_trans hb h2, h3⟩
set_option maxHeartbeats 2000000 in
set_option maxRecDepth 100000 in
theorem path_is (rb b off c : Nat) (l : List UInt8) (w : World) (hR : Rdr w rb b off c l 0) :
    Calls Try.prog 87 #[.pointer (some ⟨rb, 0, none⟩)] w (Paths w rb l) := by
  have HR := hide hR
  have CL := hide (left_is rb b off c l 0 w hR)
  have hln := hR.len
  clear hR
  push_cast at CL
  rw [Int.sub_zero] at CL
  by_cases h0 : l = []
  · subst h0
    go_enter Try.func87, Try.ntmps87
    go_wp2_with fail
    refine CL.out.mono ?_
    rintro e w1 ⟨rfl, b1⟩
    have B1 := hide b1
    clear b1 CL
    go_wp2_with fail
    go_ret
    exact .inl ⟨_, [], rfl, rfl, World.ownsRow_nil w1 _ 3 1, grown_of_below B1.out⟩
  · have hl0 : ((l.length : Int) == 0) = false := by rw [beq_eq_false_iff_ne]; have := List.length_pos_iff.2 h0; omega
    have HP : Hid (pathR l = if l.length < 2 then none else if (l.length - 2) % 2 = 0 then some (numsI 2 (l.drop 2) ((l.length - 2) / 2)) else none) := by show _ = _; unfold pathR; rw [if_neg h0]
    clear h0
    go_enter Try.func87, Try.ntmps87
    go_wp2_with fail
    refine CL.out.mono ?_
    rintro e w1 ⟨rfl, b1⟩
    have R1 := hide (HR.out.below b1)
    have G1 : Hid (w.grownBy w1 (some rb)) := grown_of_below b1
    clear b1 CL
    by_cases h2 : 2 ≤ l.length
    · have CX := hide (next_ok rb b off c l 0 2 w1 R1.out (by decide) (by omega))
      go_wp2_with fail
      refine CX.out.mono ?_
      rintro e w2 ⟨rfl, r2, g2⟩
      have CN := hide (numbers_is rb b off c l (0 + 2) 2 w2 r2 (by decide) (by decide))
      have G2 := hide (grown_trans G1.out (nx_refl _ _) g2)
      clear r2 g2 CX R1 G1
      go_wp2_with fail
      refine CN.out.mono ?_
      intro e w3 h3
      rcases h3 with ⟨v, i, rfl, h4, o3, g3⟩ | ⟨rfl, h4, g3⟩
      · have O3 := hide (own_down o3 G2.out.size)
        have G3 := hide (grown_trans G2.out (nx_refl _ _) g3)
        have HE : Hid (pathR l = some (numsI 2 (l.drop (0 + 2)) i)) := by
          show _ = _
          rw [List.length_drop] at h4
          rw [HP.out, if_neg (by omega), if_pos (by omega), show (l.length - 2) / 2 = i by omega]
        clear o3 g3 h4
        go_wp2_with fail
        go_ret
        exact .inl ⟨_, _, rfl, HE.out, O3.out, G3.out⟩
      · have HE : Hid (pathR l = none) := by
          show _ = _
          rw [List.length_drop] at h4
          rw [HP.out, if_neg (by omega), if_neg (by omega)]
        exact ⟨rfl, .inr ⟨rfl, HE.out, grown_trans G2.out (nx_refl _ _) g3⟩⟩
    · have CX := hide (next_no rb b off c l 0 2 w1 R1.out (by decide) (by omega))
      have HE : Hid (pathR l = none) := by show _ = _; rw [HP.out, if_pos (by omega)]
      go_wp2_with fail
      refine CX.out.mono ?_
      rintro e w2 ⟨rfl, g2⟩
      exact ⟨rfl, .inr ⟨rfl, HE.out, grown_trans G1.out (nx_refl _ _) g2⟩⟩
end Go.Proofs.Ytkhmhmopcofejaa
