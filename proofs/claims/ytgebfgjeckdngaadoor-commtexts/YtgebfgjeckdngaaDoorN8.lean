/- The law CommTexts walked. -/
import Derived.Test.YtgebfgjeckdngaaDoorN7
namespace Go.Proofs.YtgebfgjeckdngaaDoor
open Go.RowKit Go.Sort

theorem Ad.digs_no58 (l : List UInt8) (h : Ad.digs l = true) : (58 : UInt8) ∉ l := by
  intro hm
  unfold Ad.digs at h
  have := List.all_eq_true.1 h 58 hm
  simp at this
theorem Co.parse_text (a b : Int) : Co.parse (Co.text a b) = if Co.may (a, b) = true then (a, b, 0) else (0, 0, 4) := by
  unfold Co.text
  split
  · rename_i hm
    have hab := (Co.may_iff a b).1 hm
    split
    · rename_i h
      rw [h.1, h.2]; decide
    · split
      · rename_i h
        rw [h.1, h.2]; decide
      · split
        · rename_i h
          rw [h.1, h.2]; decide
        · have ha := Ad.itoa_nat a (by omega)
          have hb := Ad.itoa_nat b (by omega)
          have h58 : (58 : UInt8) ∈ Co.plain a b := by unfold Co.plain; simp
          have n1 : Co.plain a b ≠ Co.nE := fun e => absurd (e ▸ h58) (by decide)
          have n2 : Co.plain a b ≠ Co.nA := fun e => absurd (e ▸ h58) (by decide)
          have n3 : Co.plain a b ≠ Co.lo := fun e => absurd (e ▸ h58) (by decide)
          have hc : Ad.cutL (Co.plain a b) 58 = some (Lib.itoa a, Lib.itoa b) := by
            unfold Co.plain
            rw [List.append_assoc, List.singleton_append]
            exact Ad.cutL_app _ _ _ (Ad.digs_no58 _ ha.2.2)
          unfold Co.parse
          rw [if_neg n1, if_neg n2, if_neg n3, hc]
          simp only
          rw [ha.1, hb.1, ha.2.1, hb.2.1, hm]
          rfl
  · decide

theorem texts_long (c d : Int) (s : ByteArray) (w : World) (hT : Tab w) (hs : 2000 < s.size) :
    Calls Tryd.prog 3 #[.agg #[.int .i64 c, .int .i64 d], .string s] w fun e w' => e = .returned (.bool true) ∧ Below w.heap.size w w' := by
  have B0 := hide (balloc (brefl w) (.cells #[.int .i64 c, .int .i64 d] 23))
  have HT := hide (hT.on B0.out)
  have hs' : (2000 : Int) < (s.size : Int) := by omega
  clear hT
  go_enter Tryd.func3, Tryd.ntmps3
  go_wp2_with fail
  generalize w.alloc (.cells #[.int .i64 c, .int .i64 d] 23) = W0 at *
  refine (lives_is _ HT.out).mono ?_
  rintro e w2 ⟨rfl, hb2⟩
  go_wp2_with fail
  go_ret
  exact ⟨rfl, bthen B0.out hb2⟩

set_option maxHeartbeats 8000000 in
theorem texts_short (c d : Int) (s t : ByteArray) (m : Bool) (a b q a' b' q' : Int) (w : World) (hT : Tab w) (hs : s.size ≤ 2000) (h : Co.parse s.data.toList = (a, b, q)) (hm : Co.may (c, d) = m) (ht : t = ⟨(Co.text c d).toArray⟩) (h' : Co.parse t.data.toList = (a', b', q')) (ht2 : t.size ≤ 2000)
    (hq : (m = true ∧ a' = c ∧ b' = d ∧ q' = 0) ∨ (m = false ∧ q' = 4)) :
    Calls Tryd.prog 3 #[.agg #[.int .i64 c, .int .i64 d], .string s] w fun e w' => e = .returned (.bool true) ∧ Below w.heap.size w w' := by
  have B0 := hide (balloc (brefl w) (.cells #[.int .i64 c, .int .i64 d] 23))
  have T0 := hide (two_new w c d 23)
  have CP := hide (fun W => parse_is s a b q W hs h)
  have CR := hide (fun W => refParse_is s a b q W hs h)
  have CM := hide (fun W => may_is c d m hm W)
  have CN := hide (fun W => refMay_is c d m hm W)
  have CT := hide (fun W (hW : Below w.heap.size w W) => text_is c d t ht W (hT.on hW))
  have CU := hide (fun W => refText_is c d t ht W)
  have CQ := hide (fun W => parse_is t a' b' q' W ht2 h')
  have hs' : ¬ (2000 : Int) < (s.size : Int) := by omega
  have HT := hide hT
  have HQ := hide hq
  clear h hm ht h' ht2 hT hs hq
  go_enter Tryd.func3, Tryd.ntmps3
  go_wp2_with fail
  generalize w.alloc (.cells #[.int .i64 c, .int .i64 d] 23) = W0 at *
  refine (CP.out _).mono ?_
  rintro e w1 ⟨rfl, hb1⟩
  have T1 := hide (two_below (balloc hb1 (.cells #[.int .i64 a, .int .i64 b] 23)) T0.out)
  have X1 := hide (two_new w1 a b 23)
  have B1 := hide (balloc (bthen B0.out hb1) (.cells #[.int .i64 a, .int .i64 b] 23))
  clear hb1 B0 T0 CP
  go_wp2_with fail
  generalize w1.alloc (.cells #[.int .i64 a, .int .i64 b] 23) = W1 at *
  generalize w1.heap.size = R1 at *
  refine (CR.out _).mono ?_
  rintro e w2 ⟨rfl, hb2⟩
  have T2 := hide (two_below (balloc hb2 (.cells #[.int .i64 a, .int .i64 b] 23)) T1.out)
  have X2 := hide (two_below (balloc hb2 (.cells #[.int .i64 a, .int .i64 b] 23)) X1.out)
  have Y2 := hide (two_new w2 a b 23)
  have B2 := hide (balloc (bthen B1.out hb2) (.cells #[.int .i64 a, .int .i64 b] 23))
  clear hb2 B1 T1 X1 CR
  go_wp2_with fail
  generalize w2.alloc (.cells #[.int .i64 a, .int .i64 b] 23) = W2 at *
  generalize w2.heap.size = R2 at *
  obtain ⟨p0, p1, p2, p3⟩ := T2.out
  obtain ⟨x0, x1, x2, x3⟩ := X2.out
  obtain ⟨y0, y1, y2, y3⟩ := Y2.out
  have r0 := fun dd os => cell_regrown p0 dd os
  have r1 := fun dd os => cell_regrown p1 dd os
  have r2 := fun dd os => cell_regrown x0 dd os
  have r3 := fun dd os => cell_regrown x1 dd os
  have r4 := fun dd os => cell_regrown y0 dd os
  have r5 := fun dd os => cell_regrown y1 dd os
  have hq := neqC
  have hgd := guardC
  refine wp_region_quiet_below (by kernel_rfl) (by kernel_rfl) ?_
  repeat (go_big_quiet_step ((first | (go_at_call 12; exact Calls.regrown_of (CM.out _)) | (go_at_call 13; exact Calls.regrown_of (CN.out _)) | (go_at_call 14; exact Calls.regrown_of (CT.out _ (bthen B2.out (below_regrown _ _ _)))) | (go_at_call 15; exact Calls.regrown_of (CU.out _)))))
  refine wpQuiet_nil ?_
  rintro _ ⟨⟨dd, os⟩, rfl⟩
  have hb3 := below_regrown W2 dd os
  generalize Sort.grow (redrawn W2 dd) os = W3 at hb3
  have T3 := hide (two_below hb3 T2.out)
  have B3 := hide (bthen B2.out hb3)
  clear hb3 T2 X2 Y2 B2 p0 p1 p2 p3 x0 x1 x2 x3 y0 y1 y2 y3 r0 r1 r2 r3 r4 r5
  go_wp2_with fail
  refine (noExport_is _).mono ?_
  rintro e W4 ⟨rfl, hb4⟩
  have T4 := hide (two_below hb4 T3.out)
  have B4 := hide (bthen B3.out hb4)
  clear hb4 T3 B3
  go_wp2_with fail
  refine (noAdv_is _).mono ?_
  rintro e W5 ⟨rfl, hb5⟩
  have T5 := hide (two_below hb5 T4.out)
  have B5 := hide (bthen B4.out hb5)
  clear hb5 T4 B4
  go_wp2_with fail
  refine (local_is _).mono ?_
  rintro e W6 ⟨rfl, hb6⟩
  have T6 := hide (two_below hb6 T5.out)
  have B6 := hide (bthen B5.out hb6)
  clear hb6 T5 B5
  obtain ⟨p0, p1, p2, p3⟩ := T6.out
  go_wp2_with fail
  refine (CT.out _ B6.out).mono ?_
  rintro e W7 ⟨rfl, hb7⟩
  have T7 := hide (two_below hb7 T6.out)
  have B7 := hide (bthen B6.out hb7)
  clear hb7 T6 B6 p0 p1 p2 p3
  go_wp2_with fail
  refine (CQ.out _).mono ?_
  rintro e W8 ⟨rfl, hb8⟩
  have T8 := hide (two_below (balloc hb8 (.cells #[.int .i64 a', .int .i64 b'] 23)) T7.out)
  have X8 := hide (two_new W8 a' b' 23)
  have B8 := hide (balloc (bthen B7.out hb8) (.cells #[.int .i64 a', .int .i64 b'] 23))
  clear hb8 T7 B7 hq
  have hq := eqC
  obtain ⟨p0, p1, p2, p3⟩ := T8.out
  rcases HQ.out with ⟨rfl, rfl, rfl, rfl⟩ | ⟨rfl, rfl⟩
  · go_wp2_with fail
    refine (CM.out _).mono ?_
    rintro e W9 ⟨rfl, hb9⟩
    clear p0 p1 p2 p3
    obtain ⟨p0, p1, p2, p3⟩ := two_below hb9 T8.out
    obtain ⟨x0, x1, x2, x3⟩ := two_below hb9 X8.out
    have B9 := hide (bthen B8.out hb9)
    clear hb9 T8 X8 B8
    go_wp2_with fail
    refine (lives_is _ (HT.out.on B9.out)).mono ?_
    rintro e w10 ⟨rfl, hb10⟩
    go_wp2_with fail
    go_ret
    exact ⟨rfl, bthen B9.out hb10⟩
  · go_wp2_with fail
    refine (CM.out _).mono ?_
    rintro e W9 ⟨rfl, hb9⟩
    have B9 := hide (bthen B8.out hb9)
    clear hb9 T8 X8 B8 p0 p1 p2 p3
    go_wp2_with fail
    refine (lives_is _ (HT.out.on B9.out)).mono ?_
    rintro e w10 ⟨rfl, hb10⟩
    go_wp2_with fail
    go_ret
    exact ⟨rfl, bthen B9.out hb10⟩

theorem texts_law (c d : Int) (s : ByteArray) (w : World) (hT : Tab w) :
    Calls Tryd.prog 3 #[.agg #[.int .i64 c, .int .i64 d], .string s] w fun e w' => e = .returned (.bool true) ∧ Below w.heap.size w w' := by
  rcases Nat.lt_or_ge 2000 s.size with h | h
  · exact texts_long c d s w hT h
  · have hl := Co.tx_len (c, d)
    have hp := Co.parse_text c d
    have hsz : (⟨(Co.text c d).toArray⟩ : ByteArray).size ≤ 2000 := Nat.le_trans hl (by decide)
    cases hm : Co.may (c, d)
    · rw [hm] at hp
      exact texts_short c d s _ false _ _ _ 0 0 4 w hT h rfl hm rfl hp hsz (.inr ⟨rfl, rfl⟩)
    · rw [hm] at hp
      exact texts_short c d s _ true _ _ _ c d 0 w hT h rfl hm rfl hp hsz (.inl ⟨rfl, rfl, rfl, rfl⟩)
end Go.Proofs.YtgebfgjeckdngaaDoor
