import Derived.Test.YtbceoinhmpnjaaaGreatDoorU16
import Derived.Test.YtbceoinhmpnjaaaGreatDoorT3
import Derived.Laws.MakeOwn
/- The program's Size. -/
namespace Go.Proofs.YtbceoinhmpnjaaaGreatDoor
open Go.RowKit Go.Sort

mutual
def Pn.size : Pn → Nat
  | .mk k _ us => if k = 0 ∨ k = 1 ∨ k = 2 then 1 else Pn.sizes us
def Pn.sizes : List Pn → Nat
  | [] => 0
  | t :: r => Pn.size t + Pn.sizes r
end
theorem Pn.sizes_app (a b : List Pn) : Pn.sizes (a ++ b) = Pn.sizes a + Pn.sizes b := by
  induction a with
  | nil => simp [Pn.sizes]
  | cons x r ih => simp only [List.cons_append, Pn.sizes, ih]; omega
theorem Pn.sizes_step (ks : List Pn) (i : Nat) (h : i < ks.length) : Pn.sizes (ks.take (i + 1)) = Pn.sizes (ks.take i) + Pn.size ks[i] := by
  rw [List.take_succ_eq_append_getElem h, Pn.sizes_app]
  simp [Pn.sizes]
theorem Pn.sizes_le (ks : List Pn) (i : Nat) : Pn.sizes (ks.take i) ≤ Pn.sizes ks := by
  have := Pn.sizes_app (ks.take i) (ks.drop i)
  rw [List.take_append_drop] at this
  omega
mutual
theorem Nd.pn_size (d : Nat) : ∀ n : Nd, Nd.Good d n → Pn.size (Nd.pn n) = Nd.size n
  | .num dot set rs, _ => by
    rw [Nd.pn, Nd.size]
    split
    · simp [Pn.size]
    · split <;> simp [Pn.size]
  | .ch rows, h => by
    rw [Nd.pn, Nd.size, Pn.size, if_neg (by decide)]
    cases d with
    | zero => simp only [Nd.Good] at h
    | succ d =>
      simp only [Nd.Good] at h
      exact Nd.pn_sizeRows d rows h.2
  | .st k n, h => by
    have h' : (k = 3 ∨ k = 4 ∨ k = 5) ∧ (∀ j m, n ≠ .st j m) ∧ Nd.Good d n := by
      cases d <;> simpa only [Nd.Good] using h
    rw [Nd.pn, Nd.size, Pn.size, if_neg (by omega), Pn.sizes, Pn.sizes, Nd.pn_size d n h'.2.2]
    omega
theorem Nd.pn_sizeRow (d : Nat) : ∀ l : List Nd, Nd.GoodRow d l → Pn.sizes (Nd.pnRow l) = Nd.sizeRow l
  | [], _ => by simp [Nd.pnRow, Pn.sizes, Nd.sizeRow]
  | n :: r, h => by
    simp only [Nd.GoodRow] at h
    rw [Nd.pnRow, Pn.sizes, Nd.sizeRow, Nd.pn_size d n h.1, Nd.pn_sizeRow d r h.2]
theorem Nd.pn_sizeRows (d : Nat) : ∀ l : List (List Nd), Nd.GoodRows d l → Pn.sizes (Nd.pnRows l) = Nd.sizeRows l
  | [], _ => by simp [Nd.pnRows, Pn.sizes, Nd.sizeRows]
  | l :: r, h => by
    simp only [Nd.GoodRows] at h
    rw [Nd.pnRows, Pn.sizes, Nd.sizeRows, Pn.size, if_neg (by decide), Nd.pn_sizeRow d l h.1, Nd.pn_sizeRows d r h.2]
end
theorem six3_at {w : World} {b off : Nat} {x0 x1 x2 : Value} (h : Six w b off [x0, x1, x2]) : w.cell? ⟨b, off, none⟩ = some x0 ∧ w.cell? ⟨b, off + 1, none⟩ = some x1 ∧ w.cell? ⟨b, off + 2, none⟩ = some x2 := ⟨h 0 (by simp), h 1 (by simp), h 2 (by simp)⟩

set_option maxHeartbeats 4000000 in
set_option maxRecDepth 100000 in
theorem pnSize_is {w : World} {t : Pn} {cs : List Value} (h : Pn.At w t cs) : Pn.size t ≤ 1000000 → ∀ W, Below w.heap.size w W →
    Calls Tryz.prog 31 #[.agg cs.toArray] W fun e w' => e = .returned (.int .i64 (Pn.size t : Nat)) ∧ Below W.heap.size W w' := by
  induction h with
  | mk b off css hn hp hk hr ha ih =>
    rename_i k ps us po pc uo uc
    intro hz W hW
    have HR := hide hr
    have HA := hide ha
    have IH := hide ih
    clear hp hr ha ih
    have hn2 := hn.2
    clear hn
    have BX := hide (box3_new W (.int .i64 k) (.slice po ps.length pc) (.slice uo us.length uc) 59)
    have B0 := hide (balloc (brefl W) (.cells #[.int .i64 k, .slice po ps.length pc, .slice uo us.length uc] 59))
    by_cases hk0 : k = 0 ∨ k = 1 ∨ k = 2
    · have HE : Hid (Pn.size (.mk k ps us) = 1) := by show _ = _; rw [Pn.size, if_pos hk0]
      clear hz IH HA HR hk BX
      rcases hk0 with rfl | rfl | rfl <;>
        (go_enter Tryz.func31, Tryz.ntmps31
         go_wp2_with fail
         go_ret
         exact ⟨by rw [HE.out]; rfl, B0.out⟩)
    · have hz' : Pn.sizes us ≤ 1000000 := by
        rw [Pn.size, if_neg hk0] at hz
        exact hz
      have k0 : (k == 0) = false := by simp; omega
      have k1 : (k == 1) = false := by simp; omega
      have k2 : (k == 2) = false := by simp; omega
      have HE : Hid (Pn.size (.mk k ps us) = Pn.sizes us) := by show _ = _; rw [Pn.size, if_neg hk0]
      have HZ := hide hz'
      have HK := hide hk
      have HW := hide hW
      clear hz hz' hk hW hk0
      go_enter Tryz.func31, Tryz.ntmps31
      go_wp2_with fail
      generalize W.alloc (.cells #[.int .i64 k, .slice po ps.length pc, .slice uo us.length uc] 59) = W1 at BX B0 ⊢
      go_loopw [3, 22] (fun v3 v4 wr => ∃ i : Nat, v4 = .int .i64 i ∧ v3 = .int .i64 (Pn.sizes (us.take i) : Nat) ∧ i ≤ us.length ∧ Below W1.heap.size W1 wr) (fun _ v4 _ => us.length - (intOf v4).toNat)
      case atStart => exact ⟨0, rfl, rfl, Nat.zero_le _, brefl _⟩
      case round =>
        obtain ⟨i, rfl, rfl, hi, hbr⟩ := hrel
        have BR := hide hbr
        clear hbr
        by_cases hil : i < us.length
        · have hil' : (i : Int) < (us.length : Int) := by omega
          have hko : uo = some ⟨b, off, none⟩ := by
            rcases HK.out with h | h
            · rw [h] at hil; simp at hil
            · exact h
          subst hko
          have CC := hide (fun hz wq hq => IH.out i hil hz wq hq)
          have HN := hide (Pn.sizes_step us i hil)
          have hle := Pn.sizes_le us (i + 1)
          have hz := HZ.out
          rw [HN.out] at hle
          have h1 := six_below (six_below (HR.out i hil) HW.out) (bthen B0.out BR.out)
          obtain ⟨x0, x1, x2, hx⟩ := Pn.len (HA.out i hil)
          have h1o := HA.out i hil
          rw [hx] at h1o
          obtain ⟨o0, o1, o2⟩ := Pn.one h1o
          have s0 := fun w a m => run_store Tryz.prog w a x0 m o0
          have s1 := fun w a m => run_store Tryz.prog w a x1 m o1
          have s2 := fun w a m => run_store Tryz.prog w a x2 m o2
          clear h1o
          generalize us[i] = kd at *
          rw [hx] at CC h1
          obtain ⟨e0, e1, e2⟩ := six3_at h1
          have CG := hide (CC.out (by omega) (wr.alloc (.cells #[x0, x1, x2] 59)) (bthen HW.out (bthen B0.out (balloc BR.out _))))
          have B2 := hide (balloc BR.out (.cells #[x0, x1, x2] 59))
          clear h1 hx CC
          generalize hS : Pn.sizes (us.take i) = S at *
          generalize Pn.size kd = Z at *
          go_wp2_with fail
          refine CG.out.mono ?_
          rintro e w3 ⟨rfl, hb3⟩
          have B3 := hide (bthen B2.out hb3)
          clear hb3
          go_wp2_with fail
          refine ⟨⟨i + 1, by go_num, ?_, by omega, B3.out⟩, by simp [intOf] <;> omega⟩
          rw [HN.out]
          simp
        · have hil' : ¬ (i : Int) < (us.length : Int) := by omega
          have HS : Hid (Pn.sizes (us.take i) = Pn.sizes us) := by show _ = _; rw [List.take_of_length_le (by omega)]
          generalize Pn.sizes (us.take i) = S at HS ⊢
          go_wp2_with fail
          go_ret
          exact ⟨ret_int (congrArg Int.ofNat (HS.out.trans HE.out.symm)), bthen B0.out BR.out⟩
theorem parse_good5 {s : Bs} {x : Xp} (h : Px.parse s = .ok x) : ∃ d, Nd.GoodRows d x.2.2 := (parse_bounds h).1
end Go.Proofs.YtbceoinhmpnjaaaGreatDoor

/- The program's Size of an expression; what a nil one answers. -/
namespace Go.Proofs.YtbceoinhmpnjaaaGreatDoor
open Go.RowKit Go.Sort

theorem size_is5 (v : Value) (x : Xp) (W : World) (h : Rep5 W v x) : Calls Tryz.prog 14 #[v] W fun e w' => e = .returned (.int .i64 (Nd.sizeRows x.2.2 : Nat)) ∧ Below W.heap.size W w' := by
  obtain ⟨a, x0, x1, x2, rfl, hE, hA, s, hs⟩ := h
  obtain ⟨f, l, rows⟩ := x
  obtain ⟨⟨d, hg⟩, _, hz⟩ := parse_bounds hs
  have he : Pn.size (.mk 3 [] (Nd.pnRows rows)) = Nd.sizeRows rows := by rw [Pn.size, if_neg (by decide), Nd.pn_sizeRows d rows hg]
  have CS := hide (pnSize_is hA (by rw [he]; exact hz) W (brefl W))
  rw [he] at CS
  obtain ⟨c0, c1, c2, c3, c4⟩ := hE
  clear hA hs hg hz he
  generalize Nd.sizeRows rows = Z at *
  go_enter Tryz.func14, Tryz.ntmps14
  go_wp2_with fail
  refine CS.out.mono ?_
  rintro e w1 ⟨rfl, hb⟩
  have B1 := hide hb
  clear hb CS
  go_wp2_with fail
  go_ret
  exact ⟨rfl, B1.out⟩
theorem size_nil (W : World) : Calls Tryz.prog 14 #[.pointer none] W fun e w' => e = .returned (.int .i64 0) ∧ w' = W := by
  go_enter Tryz.func14, Tryz.ntmps14
  go_wp2_with fail
  go_ret
  exact ⟨rfl, rfl⟩
theorem text_nil (W : World) : Calls Tryz.prog 12 #[.pointer none] W fun e w' => e = .returned (.string ⟨#[]⟩) ∧ w' = W := by
  go_enter Tryz.func12, Tryz.ntmps12
  go_wp2_with fail
  go_ret
  exact ⟨rfl, rfl⟩
theorem meets_nil (W : World) (p : Value) : Calls Tryz.prog 17 #[.pointer none, p] W fun e w' => e = .returned (.bool false) ∧ w' = W := by
  go_enter Tryz.func17, Tryz.ntmps17
  go_wp2_with fail
  go_ret
  exact ⟨rfl, rfl⟩
theorem whole_nil (W : World) (p : Value) : Calls Tryz.prog 18 #[.pointer none, p] W fun e w' => e = .returned (.bool false) ∧ Below W.heap.size W w' := by
  go_enter Tryz.func18, Tryz.ntmps18
  go_wp2_with fail
  go_region
  go_wp2_with fail
  go_ret
  exact ⟨rfl, (brefl W).drew⟩
theorem least_nil (W : World) (m : Int) : Calls Tryz.prog 21 #[.pointer none, .int .i64 m] W fun e w' => e = .returned (.tuple #[.slice none 0 0, .bool false]) ∧ w' = W := by
  go_enter Tryz.func21, Tryz.ntmps21
  go_wp2_with fail
  exact bodyPost_ret (results_tmp2 Tryz.results21 _ _ _) rfl ⟨rfl, rfl⟩
end Go.Proofs.YtbceoinhmpnjaaaGreatDoor

/- The program's joins of texts. -/
namespace Go.Proofs.YtbceoinhmpnjaaaGreatDoor
open Go.RowKit Go.Sort

/-- What is asked of the library for texts. -/
structure TextKit (T : World → Prop) : Prop where
  on : ∀ {w w' : World}, T w → Below w.heap.size w w' → T w'
  itoa : ∀ (n : Int) (t : ByteArray), 0 ≤ n → n ≤ 65535 → t = tx (Lib.itoa n) → ∀ w, T w → Calls Tryz.prog 78 #[.int .i64 n] w fun e w' => e = .returned (.string t) ∧ Below w.heap.size w w'
  joinNone : ∀ (a : Option Addr) (c : Nat) (sep : ByteArray) (w : World), Calls Tryz.prog 60 #[.slice a 0 c, .string sep] w fun e w' => e = .returned (.string ⟨#[]⟩) ∧ w' = w
  join : ∀ (bk o c : Nat) (xs : List ByteArray) (sep : ByteArray) (w : World), (∀ (j : Nat) x, xs[j]? = some x → w.cell? ⟨bk, o + j, none⟩ = some (.string x)) → bk < w.heap.size → xs.length ≤ 140737488355328 → xs.length ≤ c → (Lib.join (xs.map (·.data.toList)) sep.data.toList).length ≤ 140737488355328 →
    Calls Tryz.prog 60 #[.slice (some ⟨bk, o, none⟩) xs.length c, .string sep] w fun e w' => e = .returned (.string ⟨(Lib.join (xs.map (·.data.toList)) sep.data.toList).toArray⟩) ∧ Below w.heap.size w w'
theorem infoS : (Tryz.prog.info? 9).map (fun i => (i.zero, i.size, i.bytes)) = some (some (.string ⟨#[]⟩), 1, 16) := by kernel_rfl
theorem info_partsS : ∃ i0 : TypeInfo, Tryz.prog.info? 9 = some i0 ∧ i0.zero = some (.string ⟨#[]⟩) ∧ i0.size = 1 ∧ i0.bytes = 16 := by
  have h := infoS
  cases hi : Tryz.prog.info? 9 with
  | none => rw [hi] at h; cases h
  | some i0 =>
    rw [hi] at h
    simp only [Option.map_some, Option.some.injEq, Prod.mk.injEq] at h
    exact ⟨i0, rfl, h.1, h.2.1, h.2.2⟩
theorem append_str {w w0 : World} {ops : Array Oper} {rest : List Oper} {o : Oper} {a : Act} {Q : Exit → Act → World → Prop} (hgd : o.guard = none) (s x : Operand)
    (ho : o.op = .call { callee := .builtin .append, args := #[s, x], argTypes := #[94, 94] }) (v : Value) (n : Nat) (xs : List Value) (hs : a.eval s = v) (hown : w.ownsRow w0.heap.size 9 1 v n xs)
    (g c : Nat) (t : ByteArray) (hx : a.eval x = .slice (some ⟨g, 0, none⟩) 1 c) (hR : w.cell? ⟨g, 0, none⟩ = some (.string t)) (hn : n ≤ 100000) (hb : Below w0.heap.size w0 w)
    (h : ∀ v' w', w'.ownsRow w0.heap.size 9 1 v' (n + 1) (xs ++ [.string t]) → Below w0.heap.size w0 w' → wpList Tryz.prog ops Q rest (a.put o.dst v') w') : wpList Tryz.prog ops Q (o :: rest) a w := by
  obtain ⟨i0, hi, hz0, hz1, hz2⟩ := info_partsS
  refine wpList_append_own w hgd s x 94 ho w0.heap.size 9 i0 _ 1 16 Tryz.underlying94 hi hz0 hz1 hz2 rfl (by decide) v n xs hs hown ⟨g, 0, none⟩ 1 c [.string t] hx rfl ?_ ?_ (by unfold maxLen; omega) (by omega) hb.size ?_
  · intro j u hu
    match j, hu with
    | 0, hu => simp at hu; subst hu; exact hR
    | j + 1, hu => simp at hu
  · intro u hu
    simp at hu
    subst hu
    rfl
  · intro v' w' ho' hg _
    exact h v' w' ho' (Below.grown hb hg hb.size fun k hk => (hown.lt k hk).1)
def strV (t : Bs) : Value := .string (tx t)

set_option maxHeartbeats 8000000 in
set_option maxRecDepth 100000 in
theorem joinN_is {T : World → Prop} (K : TextKit T) (tt : List Bs) (sep : ByteArray) (r : ByteArray) (hr : Hid (r = tx (Lib.join tt sep.data.toList))) (hjl : Hid ((Lib.join tt sep.data.toList).length ≤ 100000)) (hn : tt.length ≤ 100000) (ao : Option Addr) (ca b off : Nat) (css : Nat → List Value) (w : World) (hk : tt = [] ∨ ao = some ⟨b, off, none⟩) (hrd : Hid (∀ i, i < tt.length → ∃ x0 x1 x2, css i = [x0, x1, x2] ∧ One3 x0 x1 x2 ∧ Six w b (off + i * 3) [x0, x1, x2]))
    (hf : Hid (∀ i (h : i < tt.length) W, Below w.heap.size w W → Calls Tryz.prog 45 #[.agg (css i).toArray] W fun e w' => e = .returned (.string (tx tt[i])) ∧ Below W.heap.size W w')) :
    Calls Tryz.prog 44 #[.slice ao tt.length ca, .string sep, .func (.func 45) #[] #[]] w fun e w' => e = .returned (.string r) ∧ Below w.heap.size w w' := by
  have HK := hide hk
  obtain ⟨i0, hi, hz0, hz1, hz2⟩ := info_partsS
  obtain ⟨w2, hmk, hown, hgr⟩ := run_make_own w w.heap.size 94 9 i0 _ 1 Tryz.underlying94 hi hz0 hz1 .i64 .i64 tt.length (by rw [hz2]; omega) (by unfold maxLen; omega) (Nat.le_refl _)
  have B2 := hide (Below.grown (brefl w) hgr (Nat.le_refl _) (fun k hk => by cases hk))
  have HO := hide hown
  clear hi hz0 hz1 hz2 hown hgr hk
  go_enter Tryz.func44, Tryz.ntmps44
  go_wp2_with fail
  go_loopw [7, 15] (fun v3 v14 wr => ∃ (k : Nat) (o : Option Addr) (c : Nat), v14 = .int .i64 k ∧ v3 = .slice o k c ∧ k ≤ tt.length ∧ wr.ownsRow w.heap.size 9 1 (.slice o k c) k ((tt.take k).map strV) ∧ Below w.heap.size w wr) (fun _ v14 _ => tt.length - (intOf v14).toNat)
  case atStart => exact ⟨0, _, _, rfl, rfl, Nat.zero_le _, HO.out, B2.out⟩
  case round =>
    clear HO B2
    obtain ⟨k, o, c, rfl, rfl, hk, hown, hbr⟩ := hrel
    have HO := hide hown
    have HBR := hide hbr
    clear hown hbr
    by_cases hkl : k < tt.length
    · have hkl' : (k : Int) < (tt.length : Int) := by omega
      have hao : ao = some ⟨b, off, none⟩ := by
        rcases HK.out with h | h
        · rw [h] at hkl; simp at hkl
        · exact h
      subst hao
      obtain ⟨x0, x1, x2, hcs, ⟨o0, o1, o2⟩, h6⟩ := hrd.out k hkl
      obtain ⟨e0, e1, e2⟩ := six3_at (six_below h6 HBR.out)
      have s0 := fun w a m => run_store Tryz.prog w a x0 m o0
      have s1 := fun w a m => run_store Tryz.prog w a x1 m o1
      have s2 := fun w a m => run_store Tryz.prog w a x2 m o2
      have CI := hide (hf.out k hkl (wr.alloc (.cells #[x0, x1, x2] 59)) (balloc HBR.out _))
      rw [hcs] at CI
      have BA := hide (balloc HBR.out (.cells #[x0, x1, x2] 59))
      have HOA := hide (HO.out.alloc (.cells #[x0, x1, x2] 59))
      have HN : Hid ((tt.take (k + 1)).map strV = (tt.take k).map strV ++ [strV tt[k]]) := by
        show _ = _
        rw [List.take_succ_eq_append_getElem hkl, List.map_append]
        rfl
      clear h6 hcs
      generalize (tt.take k).map strV = XS at HO HOA HN
      generalize hXN : (tt.take (k + 1)).map strV = XN at HN
      have HXN := hide hXN
      clear hXN
      obtain ⟨t, ht⟩ : ∃ t, t = tx tt[k] := ⟨_, rfl⟩
      have HN2 : Hid (XN = XS ++ [.string t]) := by show _ = _; rw [HN.out, ht]; rfl
      rw [← ht] at CI
      clear ht HN
      go_wp2_with fail
      refine CI.out.mono ?_
      rintro e w3 ⟨rfl, hb3⟩
      have B3 := hide (bthen BA.out hb3)
      have HO3 := hide (row_below HOA.out hb3)
      clear hb3 HBR HO CI e0 e1 e2 HOA BA
      go_wp2_with (at_builtin; go_must (refine append_str (w0 := w) rfl _ _ rfl _ k _ rfl (HO3.out.alloc _) w3.heap.size 1 t rfl ?c1 (by omega) (balloc B3.out _) ?_))
      case c1 => simp
      intro v' w4 hnew hb4
      obtain ⟨no, nc, rfl⟩ := row_slice hnew
      rw [← HN2.out] at hnew
      have HNW := hide hnew
      have B4 := hide hb4
      clear hnew hb4
      go_wp2_with fail
      refine ⟨⟨k + 1, no, nc, by go_num, rfl, by omega, ?_, B4.out⟩, by simp [intOf] <;> omega⟩
      rw [HXN.out]
      exact HNW.out
    · have hkl' : ¬ (k : Int) < (tt.length : Int) := by omega
      obtain rfl : k = tt.length := by omega
      rw [List.take_length] at HO
      have hj : Hid ((tt.map tx).map (·.data.toList) = tt) := by
        show _ = _
        rw [List.map_map]
        conv => rhs; rw [← List.map_id tt]
        exact List.map_congr_left fun c _ => by simp
      have hjl2 := hjl.out
      rcases Nat.eq_zero_or_pos tt.length with h0 | h0
      · have hl0 : tt = [] := List.length_eq_zero_iff.1 h0
        subst hl0
        clear HO
        have CJ := hide (K.joinNone o c sep wr)
        go_wp2_with fail
        refine CJ.out.mono ?_
        rintro e w3 ⟨rfl, rfl⟩
        go_wp2_with fail
        go_ret
        exact ⟨by rw [hr.out]; rfl, HBR.out⟩
      · obtain ⟨g, hgo, hgc⟩ : ∃ g, o = some ⟨g, 0, none⟩ ∧ tt.length ≤ c := by
          rcases HO.out.2 with ⟨hv, h1⟩ | ⟨g, cap, cur, hv, hbg, hg, hnc, _⟩
          · omega
          · simp only [Value.slice.injEq] at hv
            exact ⟨g, hv.1, by rw [hv.2.2]; exact hnc⟩
        subst hgo
        have hcl : ∀ (j : Nat) x, (tt.map tx)[j]? = some x → wr.cell? ⟨g, 0 + j, none⟩ = some (.string x) := by
          intro j x hx
          have hjl : j < tt.length := by have := (List.getElem?_eq_some_iff.1 hx).1; simpa using this
          rw [Nat.zero_add, HO.out.cellAt j (by omega)]
          rw [List.getElem?_map] at hx ⊢
          cases hlj : tt[j]? with
          | none => rw [hlj] at hx; cases hx
          | some y =>
            rw [hlj] at hx
            simp only [Option.map_some, Option.some.injEq] at hx ⊢
            rw [← hx]
            rfl
        have CJ := K.join g 0 c (tt.map tx) sep wr hcl (by have := HO.out.lt g rfl; omega) (by simp; omega) (by simpa using hgc) (by rw [hj.out]; omega)
        have hr2 : (⟨(Lib.join tt sep.data.toList).toArray⟩ : ByteArray) = r := hr.out.symm
        rw [hj.out, List.length_map, hr2] at CJ
        have CJH := hide CJ
        clear CJ hcl
        go_wp2_with fail
        refine CJH.out.mono ?_
        rintro e w3 ⟨rfl, hb3⟩
        have B3 := hide (bthen HBR.out hb3)
        clear hb3 CJH
        go_wp2_with fail
        go_ret
        exact ⟨rfl, B3.out⟩

set_option maxHeartbeats 8000000 in
set_option maxRecDepth 100000 in
theorem joinP_is {T : World → Prop} (K : TextKit T) (tt : List Bs) (sep : ByteArray) (r : ByteArray) (hr : Hid (r = tx (Lib.join tt sep.data.toList))) (hjl : Hid ((Lib.join tt sep.data.toList).length ≤ 100000)) (hn : tt.length ≤ 100000) (ao : Option Addr) (ca b off : Nat) (css : Nat → List Value) (w : World) (hk : tt = [] ∨ ao = some ⟨b, off, none⟩) (hrd : Hid (∀ i, i < tt.length → ∃ x0 x1 x2, css i = [x0, x1, x2] ∧ One3 x0 x1 x2 ∧ Six w b (off + i * 3) [x0, x1, x2]))
    (hf : Hid (∀ i (h : i < tt.length) W, Below w.heap.size w W → Calls Tryz.prog 62 #[.agg (css i).toArray] W fun e w' => e = .returned (.string (tx tt[i])) ∧ Below W.heap.size W w')) :
    Calls Tryz.prog 61 #[.slice ao tt.length ca, .string sep, .func (.func 62) #[] #[]] w fun e w' => e = .returned (.string r) ∧ Below w.heap.size w w' := by
  have HK := hide hk
  obtain ⟨i0, hi, hz0, hz1, hz2⟩ := info_partsS
  obtain ⟨w2, hmk, hown, hgr⟩ := run_make_own w w.heap.size 94 9 i0 _ 1 Tryz.underlying94 hi hz0 hz1 .i64 .i64 tt.length (by rw [hz2]; omega) (by unfold maxLen; omega) (Nat.le_refl _)
  have B2 := hide (Below.grown (brefl w) hgr (Nat.le_refl _) (fun k hk => by cases hk))
  have HO := hide hown
  clear hi hz0 hz1 hz2 hown hgr hk
  go_enter Tryz.func61, Tryz.ntmps61
  go_wp2_with fail
  go_loopw [7, 15] (fun v3 v14 wr => ∃ (k : Nat) (o : Option Addr) (c : Nat), v14 = .int .i64 k ∧ v3 = .slice o k c ∧ k ≤ tt.length ∧ wr.ownsRow w.heap.size 9 1 (.slice o k c) k ((tt.take k).map strV) ∧ Below w.heap.size w wr) (fun _ v14 _ => tt.length - (intOf v14).toNat)
  case atStart => exact ⟨0, _, _, rfl, rfl, Nat.zero_le _, HO.out, B2.out⟩
  case round =>
    clear HO B2
    obtain ⟨k, o, c, rfl, rfl, hk, hown, hbr⟩ := hrel
    have HO := hide hown
    have HBR := hide hbr
    clear hown hbr
    by_cases hkl : k < tt.length
    · have hkl' : (k : Int) < (tt.length : Int) := by omega
      have hao : ao = some ⟨b, off, none⟩ := by
        rcases HK.out with h | h
        · rw [h] at hkl; simp at hkl
        · exact h
      subst hao
      obtain ⟨x0, x1, x2, hcs, ⟨o0, o1, o2⟩, h6⟩ := hrd.out k hkl
      obtain ⟨e0, e1, e2⟩ := six3_at (six_below h6 HBR.out)
      have s0 := fun w a m => run_store Tryz.prog w a x0 m o0
      have s1 := fun w a m => run_store Tryz.prog w a x1 m o1
      have s2 := fun w a m => run_store Tryz.prog w a x2 m o2
      have CI := hide (hf.out k hkl (wr.alloc (.cells #[x0, x1, x2] 84)) (balloc HBR.out _))
      rw [hcs] at CI
      have BA := hide (balloc HBR.out (.cells #[x0, x1, x2] 84))
      have HOA := hide (HO.out.alloc (.cells #[x0, x1, x2] 84))
      have HN : Hid ((tt.take (k + 1)).map strV = (tt.take k).map strV ++ [strV tt[k]]) := by
        show _ = _
        rw [List.take_succ_eq_append_getElem hkl, List.map_append]
        rfl
      clear h6 hcs
      generalize (tt.take k).map strV = XS at HO HOA HN
      generalize hXN : (tt.take (k + 1)).map strV = XN at HN
      have HXN := hide hXN
      clear hXN
      obtain ⟨t, ht⟩ : ∃ t, t = tx tt[k] := ⟨_, rfl⟩
      have HN2 : Hid (XN = XS ++ [.string t]) := by show _ = _; rw [HN.out, ht]; rfl
      rw [← ht] at CI
      clear ht HN
      go_wp2_with fail
      refine CI.out.mono ?_
      rintro e w3 ⟨rfl, hb3⟩
      have B3 := hide (bthen BA.out hb3)
      have HO3 := hide (row_below HOA.out hb3)
      clear hb3 HBR HO CI e0 e1 e2 HOA BA
      go_wp2_with (at_builtin; go_must (refine append_str (w0 := w) rfl _ _ rfl _ k _ rfl (HO3.out.alloc _) w3.heap.size 1 t rfl ?c1 (by omega) (balloc B3.out _) ?_))
      case c1 => simp
      intro v' w4 hnew hb4
      obtain ⟨no, nc, rfl⟩ := row_slice hnew
      rw [← HN2.out] at hnew
      have HNW := hide hnew
      have B4 := hide hb4
      clear hnew hb4
      go_wp2_with fail
      refine ⟨⟨k + 1, no, nc, by go_num, rfl, by omega, ?_, B4.out⟩, by simp [intOf] <;> omega⟩
      rw [HXN.out]
      exact HNW.out
    · have hkl' : ¬ (k : Int) < (tt.length : Int) := by omega
      obtain rfl : k = tt.length := by omega
      rw [List.take_length] at HO
      have hj : Hid ((tt.map tx).map (·.data.toList) = tt) := by
        show _ = _
        rw [List.map_map]
        conv => rhs; rw [← List.map_id tt]
        exact List.map_congr_left fun c _ => by simp
      have hjl2 := hjl.out
      rcases Nat.eq_zero_or_pos tt.length with h0 | h0
      · have hl0 : tt = [] := List.length_eq_zero_iff.1 h0
        subst hl0
        clear HO
        have CJ := hide (K.joinNone o c sep wr)
        go_wp2_with fail
        refine CJ.out.mono ?_
        rintro e w3 ⟨rfl, rfl⟩
        go_wp2_with fail
        go_ret
        exact ⟨by rw [hr.out]; rfl, HBR.out⟩
      · obtain ⟨g, hgo, hgc⟩ : ∃ g, o = some ⟨g, 0, none⟩ ∧ tt.length ≤ c := by
          rcases HO.out.2 with ⟨hv, h1⟩ | ⟨g, cap, cur, hv, hbg, hg, hnc, _⟩
          · omega
          · simp only [Value.slice.injEq] at hv
            exact ⟨g, hv.1, by rw [hv.2.2]; exact hnc⟩
        subst hgo
        have hcl : ∀ (j : Nat) x, (tt.map tx)[j]? = some x → wr.cell? ⟨g, 0 + j, none⟩ = some (.string x) := by
          intro j x hx
          have hjl : j < tt.length := by have := (List.getElem?_eq_some_iff.1 hx).1; simpa using this
          rw [Nat.zero_add, HO.out.cellAt j (by omega)]
          rw [List.getElem?_map] at hx ⊢
          cases hlj : tt[j]? with
          | none => rw [hlj] at hx; cases hx
          | some y =>
            rw [hlj] at hx
            simp only [Option.map_some, Option.some.injEq] at hx ⊢
            rw [← hx]
            rfl
        have CJ := K.join g 0 c (tt.map tx) sep wr hcl (by have := HO.out.lt g rfl; omega) (by simp; omega) (by simpa using hgc) (by rw [hj.out]; omega)
        have hr2 : (⟨(Lib.join tt sep.data.toList).toArray⟩ : ByteArray) = r := hr.out.symm
        rw [hj.out, List.length_map, hr2] at CJ
        have CJH := hide CJ
        clear CJ hcl
        go_wp2_with fail
        refine CJH.out.mono ?_
        rintro e w3 ⟨rfl, hb3⟩
        have B3 := hide (bthen HBR.out hb3)
        clear hb3 CJH
        go_wp2_with fail
        go_ret
        exact ⟨rfl, B3.out⟩
end Go.Proofs.YtbceoinhmpnjaaaGreatDoor

