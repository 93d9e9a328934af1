import Derived.Test.YtbceoinhmpnjaaaGreatDoorR1
import Derived.Test.YtbceoinhmpnjaaaGreatDoorS1
import Derived.Test.YtbceoinhmpnjaaaGreatDoorQ1
import Derived.Test.YtbceoinhmpnjaaaGreatDoorR2
/- What the document's Parse hands back. -/
namespace Go.Proofs.YtbceoinhmpnjaaaGreatDoor
open Go.RowKit Go.Sort

/-- What the document's Parse hands back. -/
def ExprGood (W : World) (R : Except Int Xp) (e : Ending) (w' : World) : Prop :=
  Below W.heap.size W w' ∧
  match R with
  | .ok (f, l, rows) => ∃ x0 x1 x2 x3 x4 x5 : Value, Tr.At w' (.mk 2 false false [] [] (Nd.trRows rows)) [x0, x1, x2, x3, x4, x5] ∧ e = .returned (.tuple #[.agg #[.bool f, .bool l, x0, x1, x2, x3, x4, x5], .int .i64 0])
  | .error q => ∃ (f l : Bool) (x0 x1 x2 x3 x4 x5 : Value), One6 x0 x1 x2 x3 x4 x5 ∧ e = .returned (.tuple #[.agg #[.bool f, .bool l, x0, x1, x2, x3, x4, x5], .int .i64 q])
theorem Tr.one5 {w : World} {t : Tr} {x0 x1 x2 x3 x4 x5 : Value} (h : Tr.At w t [x0, x1, x2, x3, x4, x5]) : One6 x0 x1 x2 x3 x4 x5 := by
  obtain ⟨k, d, s, f, t, ks⟩ := t
  obtain ⟨fo, fc, to, tc, ko, kc, b, off, css, hc, _⟩ := Tr.inv h
  simp only [List.cons.injEq, and_true] at hc
  obtain ⟨rfl, rfl, rfl, rfl, rfl, rfl⟩ := hc
  exact ⟨rfl, rfl, rfl, rfl, rfl, rfl⟩
theorem box8 (W : World) (f l x0 x1 x2 x3 x4 x5 : Value) : (W.alloc (.cells #[f, l, x0, x1, x2, x3, x4, x5] 32)).rangeAt W.heap.size 0 [f, l, x0, x1, x2, x3, x4, x5] := by
  intro j v hj
  rw [Nat.zero_add]
  simpa using hj
end Go.Proofs.YtbceoinhmpnjaaaGreatDoor

/- The law AsreMeets, over the contracts of the program's functions and of the document's Parse, Meets and Met. -/
namespace Go.Proofs.YtbceoinhmpnjaaaGreatDoor
open Go.RowKit Go.Sort

theorem tab_index0 (cs : Array Value) (W : World) : (Instr.index 44 (.agg cs) (.int .i64 0)).run Tryz.prog W = .ok (.agg (cs.extract 0 17)) W := by
  simp [Instr.index, run_underlying Tryz.underlying44, asIntOf, part, isAgg, run_underlying Tryz.underlying42, sizeOf, go_sem]
  kernel_rfl
theorem tab_index1 {T : Nat → Nat → Bool} {cs : Array Value} (h : Tab T cs) (n : Nat) (hn : n < 17) (W : World) : (Instr.index 42 (.agg (cs.extract 0 17)) (.int .i64 (n : Int))).run Tryz.prog W = .ok (.bool (T 0 n)) W := by
  have h1 := h.2 0 n (by decide) hn
  rw [Nat.zero_mul, Nat.zero_add] at h1
  have h2 : (n : Int) < 17 := by omega
  have h3 : (cs.extract 0 17)[n]? = some (.bool (T 0 n)) := by
    rw [Array.getElem?_extract]
    simp [h1, h.1, hn]
  have e4 : Tryz.t4.size = 1 := by kernel_rfl
  simp [Instr.index, run_underlying Tryz.underlying42, asIntOf, part, isAgg, run_underlying Tryz.underlying4, sizeOf, go_sem, hn, h3, e4]
/-- What is asked of the document's Meets and Met. -/
structure Ref5 (s : ByteArray) : Prop where
  parse : ∀ W, Calls Tryz.prog 11 #[.string s] W (ExprGood W (Px.parse s.data.toList))
  meets : ∀ f l rows, Px.parse s.data.toList = .ok (f, l, rows) → ∀ (p : List Int) (ao : Option Addr) (ca : Nat), Is.may p = true → ∀ b : Bool, (b = true ↔ Ex.Meets (f, l, rows) p) → ∀ (w : World) (x0 x1 x2 x3 x4 x5 : Value), Tr.At w (.mk 2 false false [] [] (Nd.trRows rows)) [x0, x1, x2, x3, x4, x5] → Is.slot w ao p → ∀ W, Below w.heap.size w W →
    Calls Tryz.prog 19 #[.agg #[.bool f, .bool l, x0, x1, x2, x3, x4, x5], .slice ao p.length ca] W fun e w' => e = .returned (.bool b) ∧ Below W.heap.size W w'
  met : ∀ f l rows, Px.parse s.data.toList = .ok (f, l, rows) → ∀ (p : List Int), Is.may p = true → ∃ (cs : Array Value) (T : Nat → Nat → Bool), Tab T cs ∧ (T 0 p.length = true ↔ Nd.MetRows rows p) ∧ ∀ (ao : Option Addr) (ca : Nat) (w : World) (x0 x1 x2 x3 x4 x5 : Value), Tr.At w (.mk 2 false false [] [] (Nd.trRows rows)) [x0, x1, x2, x3, x4, x5] → Is.slot w ao p → ∀ W, Below w.heap.size w W →
    Calls Tryz.prog 20 #[.agg #[x0, x1, x2, x3, x4, x5], .slice ao p.length ca] W fun e w' => e = .returned (.agg cs) ∧ Below W.heap.size W w'

set_option maxHeartbeats 8000000 in
set_option maxRecDepth 100000 in
theorem meets_law {T : World → Prop} {Rep : World → Value → Xp → Prop} (K : Kit5 T Rep) (s : ByteArray) (H : Ref5 s) (ao : Option Addr) (ca : Nat) (p : List Int) (w : World) (hT : T w) (hA : Is.slot w ao p) :
    Calls Tryz.prog 4 #[.string s, .slice ao p.length ca] w fun e w' => e = .returned (.bool true) ∧ Below w.heap.size w w' := by
  have CL := hide (fun W (hW : Below w.heap.size w W) => lives_is K W (K.on hT hW))
  by_cases hs : s.size ≤ 64
  · have hs' : ¬ (64 : Int) < (s.size : Int) := by omega
    by_cases hl : p.length ≤ 300
    · have hl' : ¬ (300 : Int) < (p.length : Int) := by omega
      cases hp : Px.parse s.data.toList with
      | error q =>
        have hq := err_ne hp
        have hq' : (q == 0) = false := by simpa using hq
        have C1 := hide (parse_bad K s q hp (by omega) w hT)
        have C2 := hide H.parse
        rw [hp] at C2
        clear hp H hT hA
        go_enter Tryz.func4, Tryz.ntmps4
        go_wp2_with fail
        refine C1.out.mono ?_
        rintro e w1 ⟨rfl, hb1⟩
        have B1 := hide hb1
        clear hb1
        go_wp2_with fail
        refine (C2.out _).mono ?_
        rintro e w2 ⟨hb2, f, l, x0, x1, x2, x3, x4, x5, ⟨o0, o1, o2, o3, o4, o5⟩, rfl⟩
        have B2 := hide (bthen B1.out hb2)
        have s0 := fun w a m => run_store Tryz.prog w a x0 m o0
        have s1 := fun w a m => run_store Tryz.prog w a x1 m o1
        have s2 := fun w a m => run_store Tryz.prog w a x2 m o2
        have s3 := fun w a m => run_store Tryz.prog w a x3 m o3
        have s4 := fun w a m => run_store Tryz.prog w a x4 m o4
        have s5 := fun w a m => run_store Tryz.prog w a x5 m o5
        have B3 := hide (balloc B2.out (.cells #[.bool f, .bool l, x0, x1, x2, x3, x4, x5] 32))
        have CC := hide (CL.out _ B3.out)
        clear hb2
        go_wp2_with fail
        refine CC.out.mono ?_
        rintro e w4 ⟨rfl, hb4⟩
        go_wp2_with fail
        go_ret
        exact ⟨rfl, bthen B3.out hb4⟩
      | ok x =>
        obtain ⟨f, l, rows⟩ := x
        have C1 := hide (parse_ok K s _ hp (by omega) w hT)
        have C2 := hide H.parse
        rw [hp] at C2
        cases hm : Is.may p with
        | false =>
          have CM := hide (fun W (hW : Below w.heap.size w W) => refMay_is ao ca p false hm W (Is.slot_below hA hW) hl)
          have K1 := hide (fun v W (hW : Below w.heap.size w W) hR => K.meets v (f, l, rows) ao ca p false ⟨fun h => (by cases h), fun h => (by rw [hm] at h; cases h.1)⟩ W (K.on hT hW) hR (Is.slot_below hA hW) (by omega))
          have K2 := hide (fun v W (hW : Below w.heap.size w W) hR => K.whole v (f, l, rows) ao ca p false ⟨fun h => (by cases h), fun h => (by rw [hm] at h; cases h.1)⟩ W (K.on hT hW) hR (Is.slot_below hA hW) (by omega))
          clear hp H hT hA hm
          go_enter Tryz.func4, Tryz.ntmps4
          go_wp2_with fail
          refine C1.out.mono ?_
          rintro e w1 ⟨p1, rfl, hr1, hb1⟩
          have B1 := hide hb1
          have R1 := hide hr1
          clear hb1 hr1
          go_wp2_with fail
          refine (C2.out _).mono ?_
          rintro e w2 ⟨hb2, x0, x1, x2, x3, x4, x5, ht, rfl⟩
          obtain ⟨o0, o1, o2, o3, o4, o5⟩ := Tr.one5 ht
          have s0 := fun w a m => run_store Tryz.prog w a x0 m o0
          have s1 := fun w a m => run_store Tryz.prog w a x1 m o1
          have s2 := fun w a m => run_store Tryz.prog w a x2 m o2
          have s3 := fun w a m => run_store Tryz.prog w a x3 m o3
          have s4 := fun w a m => run_store Tryz.prog w a x4 m o4
          have s5 := fun w a m => run_store Tryz.prog w a x5 m o5
          have ba := balloc (brefl w2) (.cells #[.bool f, .bool l, x0, x1, x2, x3, x4, x5] 32)
          have B3 := hide (bthen (bthen B1.out hb2) ba)
          have R3 := hide (K.rep (K.rep R1.out hb2) ba)
          have CC := hide (CM.out _ B3.out)
          clear hb2 ht ba
          go_wp2_with fail
          refine CC.out.mono ?_
          rintro e w3 ⟨rfl, hw⟩
          have hw' := hw.symm
          clear hw
          subst hw'
          go_wp2_with fail
          refine (K1.out _ _ B3.out R3.out).mono ?_
          rintro e w4 ⟨rfl, hb4⟩
          have B4 := hide (bthen B3.out hb4)
          have R4 := hide (K.rep R3.out hb4)
          clear hb4
          go_wp2_with fail
          refine (K2.out _ _ B4.out R4.out).mono ?_
          rintro e w5 ⟨rfl, hb5⟩
          have B5 := hide (bthen B4.out hb5)
          clear hb5
          go_wp2_with fail
          refine (CL.out _ B5.out).mono ?_
          rintro e w6 ⟨rfl, hb6⟩
          go_wp2_with fail
          go_ret
          exact ⟨rfl, bthen B5.out hb6⟩
        | true =>
          have h16 : p.length ≤ 16 := ((Is.may_iff p).1 hm).1
          obtain ⟨cs, Tb, hTb, hTi, hMet⟩ := H.met f l rows hp p hm
          obtain ⟨bm, hbm⟩ := bool_of (Ex.Meets (f, l, rows) p)
          have CM := hide (fun W (hW : Below w.heap.size w W) => refMay_is ao ca p true hm W (Is.slot_below hA hW) hl)
          have K1 := hide (fun v W (hW : Below w.heap.size w W) hR => K.meets v (f, l, rows) ao ca p bm (hbm.trans ⟨fun h => ⟨hm, h⟩, fun h => h.2⟩) W (K.on hT hW) hR (Is.slot_below hA hW) (by omega))
          have K2 := hide (fun v W (hW : Below w.heap.size w W) hR => K.whole v (f, l, rows) ao ca p (Tb 0 p.length) (hTi.trans ⟨fun h => ⟨hm, h⟩, fun h => h.2⟩) W (K.on hT hW) hR (Is.slot_below hA hW) (by omega))
          have RM := hide (H.meets f l rows hp p ao ca hm bm hbm)
          have RT := hide (hMet ao ca)
          have I0 := tab_index0 cs
          have I1 := tab_index1 hTb p.length (by omega)
          have hpn : (p.length : Int) < 17 := by omega
          have HA := hide hA
          generalize Tb 0 p.length = bt at *
          generalize cs.extract 0 17 = c17 at *
          clear hp H hT hA hm hTb hTi hMet hbm
          go_enter Tryz.func4, Tryz.ntmps4
          go_wp2_with fail
          refine C1.out.mono ?_
          rintro e w1 ⟨p1, rfl, hr1, hb1⟩
          have B1 := hide hb1
          have R1 := hide hr1
          clear hb1 hr1
          go_wp2_with fail
          refine (C2.out _).mono ?_
          rintro e w2 ⟨hb2, x0, x1, x2, x3, x4, x5, ht, rfl⟩
          obtain ⟨o0, o1, o2, o3, o4, o5⟩ := Tr.one5 ht
          have s0 := fun w a m => run_store Tryz.prog w a x0 m o0
          have s1 := fun w a m => run_store Tryz.prog w a x1 m o1
          have s2 := fun w a m => run_store Tryz.prog w a x2 m o2
          have s3 := fun w a m => run_store Tryz.prog w a x3 m o3
          have s4 := fun w a m => run_store Tryz.prog w a x4 m o4
          have s5 := fun w a m => run_store Tryz.prog w a x5 m o5
          have ba := balloc (brefl w2) (.cells #[.bool f, .bool l, x0, x1, x2, x3, x4, x5] 32)
          have B3 := hide (bthen (bthen B1.out hb2) ba)
          have R3 := hide (K.rep (K.rep R1.out hb2) ba)
          have HA3 := hide (Tr.on ht ba)
          have HS3 := hide (Is.slot_below HA.out B3.out)
          have BX := box8 w2 (.bool f) (.bool l) x0 x1 x2 x3 x4 x5
          have b0 := BX 0 _ rfl
          have b1 := BX 1 _ rfl
          have b2 := BX 2 _ rfl
          have b3 := BX 3 _ rfl
          have b4 := BX 4 _ rfl
          have b5 := BX 5 _ rfl
          have b6 := BX 6 _ rfl
          have b7 := BX 7 _ rfl
          simp only [Nat.zero_add] at b0 b1 b2 b3 b4 b5 b6 b7
          have CC := hide (CM.out _ B3.out)
          clear hb2 ht ba BX
          go_wp2_with fail
          refine CC.out.mono ?_
          rintro e w3 ⟨rfl, hw⟩
          have hw' := hw.symm
          clear hw
          subst hw'
          clear CC
          go_wp2_with fail
          generalize w2.alloc (.cells #[.bool f, .bool l, x0, x1, x2, x3, x4, x5] 32) = W3 at *
          have r0 := fun dd os => cell_regrown b0 dd os
          have r1 := fun dd os => cell_regrown b1 dd os
          have r2 := fun dd os => cell_regrown b2 dd os
          have r3 := fun dd os => cell_regrown b3 dd os
          have r4 := fun dd os => cell_regrown b4 dd os
          have r5 := fun dd os => cell_regrown b5 dd os
          have r6 := fun dd os => cell_regrown b6 dd os
          have r7 := fun dd os => cell_regrown b7 dd os
          have Q1 := hide (fun W hW => K1.out _ W (bthen B3.out hW) (K.rep R3.out hW))
          have Q2 := hide (fun W hW => RM.out W3 x0 x1 x2 x3 x4 x5 HA3.out HS3.out W hW)
          have Q3 := hide (fun W hW => K2.out _ W (bthen B3.out hW) (K.rep R3.out hW))
          have Q4 := hide (fun W hW => RT.out W3 x0 x1 x2 x3 x4 x5 HA3.out HS3.out W hW)
          have Q5 := hide (fun W hW => CL.out W (bthen B3.out hW))
          clear K1 K2 RM RT CL CM C1 C2 s0 s1 s2 s3 s4 s5 o0 o1 o2 o3 o4 o5
          refine wp_region_quiet_below (by kernel_rfl) (by kernel_rfl) ?_
          repeat (go_big_quiet_step (first | (go_at_call 17; exact Calls.regrown_of (Q1.out _ (below_regrown _ _ _))) | (go_at_call 19; exact Calls.regrown_of (Q2.out _ (below_regrown _ _ _))) | (go_at_call 18; exact Calls.regrown_of (Q3.out _ (below_regrown _ _ _))) | (go_at_call 20; exact Calls.regrown_of (Q4.out _ (below_regrown _ _ _))) | (go_at_call 9; exact Calls.regrown_of (Q5.out _ (below_regrown _ _ _)))))
          refine wpQuiet_nil ?_
          rintro _ ⟨⟨dd, os⟩, rfl⟩
          have hb4 := below_regrown W3 dd os
          generalize Sort.grow (redrawn W3 dd) os = W4 at hb4
          have B4 := hide (bthen B3.out hb4)
          clear hb4
          go_wp2_with fail
          go_ret
          exact ⟨rfl, B4.out⟩
    · have hl' : (300 : Int) < (p.length : Int) := by omega
      have C0 := hide (CL.out w (brefl w))
      clear hT H CL hA
      go_enter Tryz.func4, Tryz.ntmps4
      go_wp2_with fail
      refine C0.out.mono ?_
      rintro e w1 ⟨rfl, hb1⟩
      go_wp2_with fail
      go_ret
      exact ⟨rfl, hb1⟩
  · have hs' : (64 : Int) < (s.size : Int) := by omega
    have C0 := hide (CL.out w (brefl w))
    clear hT H CL hA
    go_enter Tryz.func4, Tryz.ntmps4
    go_wp2_with fail
    refine C0.out.mono ?_
    rintro e w1 ⟨rfl, hb1⟩
    go_wp2_with fail
    go_ret
    exact ⟨rfl, hb1⟩
end Go.Proofs.YtbceoinhmpnjaaaGreatDoor

