/- The law AddrMinus, walked: prefixes that may be. -/
import Derived.Test.YtfkajefminopjabDoorY4
namespace Go.Proofs.YtfkajefminopjabDoor
open Go.RowKit

set_option maxHeartbeats 2000000 in
set_option maxRecDepth 100000 in
theorem law3_good (ao : Option Addr) (c : Nat) (l : List (Int × Int)) (qa qd x : Int) (w : World) (hS : Ad.slot w ao l) (hg : Ad.good l) (h1 : l.length ≤ 30) (hq0 : 0 ≤ qa) (hq1 : qa ≤ 4294967295) (hm : Ad.may qa qd = true) (hx0 : 0 ≤ x) (hx1 : x ≤ 4294967295) :
    Calls Tryd.prog 3 #[.slice ao l.length c, .agg #[.int .u32 qa, .int .i64 qd], .int .u32 x] w fun e w' => e = .returned (.bool true) ∧ Below w.heap.size w w' := by
  have g1 : ¬ (30 : Int) < (l.length : Int) := by omega
  obtain ⟨i1, hi', hy0, hy1, hy2⟩ := info_parts infoU32
  have HS := hide hS
  have HG := hide hg
  have HF : Hid (Ad.fits l) := fun y hy => ⟨(hg y hy).1, (hg y hy).2.1⟩
  have HM := hide hm
  clear hS hg hm
  go_enter Tryd.func3, Tryd.ntmps3
  go_wp2_with fail
  refine (minus_ok ao c l qa qd _ (Ad.slot_below HS.out (balloc (brefl w) _)) HG.out (by omega) hq0 hq1 HM.out).mono ?_
  rintro e w1 ⟨zs, ax, cx, rfl, hpl, hgx, hlx, hcov, hsx, hb1'⟩
  have hb1 := bthen (balloc (brefl w) _) hb1'
  have T1 := hide (two_step hb1' (two_new w qa qd))
  clear hb1'
  have HX := hide hsx
  have HS1 := hide (Ad.slot_below HS.out hb1)
  have HPL := hide hpl
  have HGX := hide hgx
  have HCV := hide hcov
  clear hpl hgx hcov hsx
  go_wp2_with fail
  refine (refWhy_slot ao c l _ HS1.out HF.out (by omega)).mono ?_
  rintro e w2 ⟨rfl, hb2⟩
  rw [Ad.why_good HG.out (by omega)]
  have B2 := hide (bthen hb1 hb2)
  have HS2 := hide (Ad.slot_below HS1.out hb2)
  have HX2 := hide (Ad.slot_below HX.out hb2)
  have T2 := hide (two_step hb2 T1.out)
  clear hb1 hb2 HS HS1 HX T1
  obtain ⟨q0, q1, q2, _⟩ := T2.out
  go_wp2_with fail
  refine (refMay_is _ _ _ HM.out _ hq0 hq1).mono ?_
  rintro e w3 ⟨rfl, hb3⟩
  have HS3 := hide (Ad.slot_below HS2.out hb3)
  have HX3 := hide (Ad.slot_below HX2.out hb3)
  have B3 := hide (bthen B2.out hb3)
  have T3 := hide (two_step hb3 T2.out)
  clear hb3 HS2 HX2 B2 T2 q0 q1 q2
  go_wp2_with fail
  refine (refIsPlain_slot ax cx zs _ HX3.out HPL.out (by omega)).mono ?_
  rintro e w7 ⟨rfl, hb7⟩
  have HS7 := hide (Ad.slot_below HS3.out hb7)
  have HX7 := hide (Ad.slot_below HX3.out hb7)
  have B7 := hide (bthen B3.out hb7)
  have T7 := hide (two_step hb7 T3.out)
  clear hb7 HS3 HX3 B3 T3
  go_wp2_with fail
  refine (refEdges_slot ao c l _ HS7.out HG.out (by omega)).mono ?_
  rintro e w8 ⟨ge, ce, es, rfl, hes, hae, hoe, hb8⟩
  have HX8 := hide (Ad.slot_below HX7.out hb8)
  have HOE := hide hoe
  have HAE := hide hae
  have BB8 := hide hb8
  have hes2 : es.length ≤ 200 := by omega
  clear hb8 hoe hae hes
  go_wp2_with fail
  refine (refEdges_slot ax cx zs _ HX8.out HGX.out (by omega)).mono ?_
  rintro e w9 ⟨gf, cf, fs, rfl, hfs, haf, hof, hb9⟩
  have BB9 := hide (bthen BB8.out hb9)
  have HOE9 := hide (row_below HOE.out hb9)
  have HOF := hide hof
  have HAF := hide haf
  have hfs2 : fs.length ≤ 5000 := by omega
  clear hb9 HX8 hof haf HOE BB8 hfs
  go_wp2_with (at_builtin; go_must (refine wpList_append_own _ rfl _ _ 33 rfl w7.heap.size 23 i1 (.int .u32 0) 1 4 Tryd.underlying33 hi' hy0 hy1 hy2 rfl (by decide) _ es.length (Ad.u32s es) rfl ?c0 ⟨gf, 0, none⟩ fs.length cf (Ad.u32s fs) rfl ?c00 ?c1 ?c2 ?c3 ?c4 ?c5 ?_))
  case c0 => exact HOE9.out
  case c00 => simp [Ad.u32s]
  case c1 =>
    intro j u hj
    have hjl : j < fs.length * 1 := by have := (List.getElem?_eq_some_iff.1 hj).1; simpa [Ad.u32s] using this
    rw [show (⟨gf, 0, none⟩ : Addr).add j = ⟨gf, j, none⟩ by unfold Addr.add; split <;> simp_all, HOF.out.cellAt j hjl]
    exact hj
  case c2 => exact Ad.u32s_one _
  case c3 => unfold maxLen; omega
  case c4 => omega
  case c5 => exact BB9.out.size
  intro v10 w10 hown10 hgrow10 _
  have B10 := hide (Below.grown (row := Value.ownBlock (.slice (some ⟨ge, 0, none⟩) es.length ce)) BB9.out hgrow10 BB9.out.size (fun k hk => (HOE9.out.lt k hk).1))
  obtain ⟨a10, c10, rfl⟩ := row_slice hown10
  have R10 : Hid (w10.ownsRow w7.heap.size 23 1 (.slice a10 (es ++ fs).length c10) (es ++ fs).length (Ad.u32s (es ++ fs))) := by
    show World.ownsRow _ _ _ _ _ _ _
    rw [Ad.u32s_append, List.length_append]
    exact hown10
  have HA10 := hide (Ad.addrs_append HAE.out HAF.out)
  have hlen10 : (es ++ fs).length ≤ 5200 := by rw [List.length_append]; omega
  rw [← List.length_append]
  generalize es ++ fs = gs at *
  have hN7 : w.heap.size < w7.heap.size := T7.out.2.2.1
  have T10 := hide (two_base B10.out hN7 T7.out)
  obtain ⟨q0, q1, q2, _⟩ := T10.out
  clear hown10 hgrow10 HOE9 HOF HAE HAF BB9
  go_wp2_with fail
  refine (refEdges_slot (some ⟨w10.heap.size, 0, none⟩) 1 [(qa, qd)] _ (.inr ⟨w10.heap.size, 0, rfl, ?_⟩) ?_ (by simp)).mono ?_
  · intro j u hj
    rw [Ad.cells_one1] at hj
    match j, hj with
    | 0, hj => simp [Ad.enc] at hj; subst hj; simp [go_sem]
    | 1, hj => simp [Ad.enc] at hj; subst hj; simp [go_sem]
  · intro y hy
    rw [List.mem_singleton.1 hy]
    exact ⟨hq0, hq1, HM.out⟩
  rintro e w11 ⟨gh, ch, hs, rfl, hhs, hah, hoh, hb11⟩
  have BB11 := hide ((B10.out.alloc B10.out.size _).trans (hb11.mono (by have := B10.out.size; simp; omega)))
  have R11 := hide (row_below (R10.out.alloc _) hb11)
  have HOH := hide hoh
  have HAH := hide hah
  have hhs2 : hs.length ≤ 10 := by simp at hhs; omega
  clear hb11 hoh hah hhs q0 q1 q2 B10 R10
  go_wp2_with (at_builtin; go_must (refine wpList_append_own _ rfl _ _ 33 rfl w7.heap.size 23 i1 (.int .u32 0) 1 4 Tryd.underlying33 hi' hy0 hy1 hy2 rfl (by decide) _ gs.length (Ad.u32s gs) rfl ?c0 ⟨gh, 0, none⟩ hs.length ch (Ad.u32s hs) rfl ?c00 ?c1 ?c2 ?c3 ?c4 ?c5 ?_))
  case c0 => exact R11.out
  case c00 => simp [Ad.u32s]
  case c1 =>
    intro j u hj
    have hjl : j < hs.length * 1 := by have := (List.getElem?_eq_some_iff.1 hj).1; simpa [Ad.u32s] using this
    rw [show (⟨gh, 0, none⟩ : Addr).add j = ⟨gh, j, none⟩ by unfold Addr.add; split <;> simp_all, HOH.out.cellAt j hjl]
    exact hj
  case c2 => exact Ad.u32s_one _
  case c3 => unfold maxLen; omega
  case c4 => omega
  case c5 => exact BB11.out.size
  intro v12 w12 hown12 hgrow12 _
  have B12 := hide (Below.grown (row := Value.ownBlock (.slice a10 gs.length c10)) BB11.out hgrow12 BB11.out.size (fun k hk => (R11.out.lt k hk).1))
  obtain ⟨a12, c12, rfl⟩ := row_slice hown12
  have R12 : Hid (w12.ownsRow w7.heap.size 23 1 (.slice a12 (gs ++ hs).length c12) (gs ++ hs).length (Ad.u32s (gs ++ hs))) := by
    show World.ownsRow _ _ _ _ _ _ _
    rw [Ad.u32s_append, List.length_append]
    exact hown12
  have HA12 := hide (Ad.addrs_append HA10.out HAH.out)
  have hlen12 : (gs ++ hs).length ≤ 5300 := by rw [List.length_append]; omega
  rw [← List.length_append]
  generalize gs ++ hs = ks at *
  clear hown12 hgrow12 R11 HOH HAH BB11 HA10
  go_wp2_with (at_builtin; go_must (refine wpList_append_own _ rfl _ _ 33 rfl w7.heap.size 23 i1 (.int .u32 0) 1 4 Tryd.underlying33 hi' hy0 hy1 hy2 rfl (by decide) _ ks.length (Ad.u32s ks) rfl ?c0 ⟨w12.heap.size, 0, none⟩ 1 1 (Ad.u32s [x]) rfl rfl ?c1 ?c2 ?c3 ?c4 ?c5 ?_))
  case c0 => exact R12.out.alloc _
  case c1 =>
    intro j u hj
    match j, hj with
    | 0, hj => simp [Ad.u32s] at hj; subst hj; simp [Addr.add, go_sem]
  case c2 => exact Ad.u32s_one _
  case c3 => unfold maxLen; omega
  case c4 => omega
  case c5 => have := B12.out.size; simp; omega
  intro v13 w13 hown13 hgrow13 _
  have B13 := hide (Below.grown (row := Value.ownBlock (.slice a12 ks.length c12)) (B12.out.alloc B12.out.size _) hgrow13 (by have := B12.out.size; simp; omega) (fun k hk => (R12.out.lt k hk).1))
  obtain ⟨g13, c13, hv13, _⟩ := hown13.form (by omega)
  subst hv13
  have R13 : Hid (w13.ownsRow w7.heap.size 23 1 (.slice (some ⟨g13, 0, none⟩) (ks ++ [x]).length c13) (ks ++ [x]).length (Ad.u32s (ks ++ [x]))) := by
    show World.ownsRow _ _ _ _ _ _ _
    rw [Ad.u32s_append, List.length_append]
    exact hown13
  have HA13 : Hid (Ad.addrs (ks ++ [x])) := Ad.addrs_append HA12.out (fun e he => by rw [List.mem_singleton.1 he]; exact ⟨hx0, hx1⟩)
  have hlen13 : (ks ++ [x]).length ≤ 5400 := by rw [List.length_append]; simp; omega
  have hl13 : ks.length + 1 = (ks ++ [x]).length := by simp
  rw [hl13]
  clear hl13
  generalize ks ++ [x] = ms at *
  have HS13 := hide (Ad.slot_below HS7.out B13.out)
  have HX13 := hide (Ad.slot_below HX7.out B13.out)
  have T13 := hide (two_base B13.out hN7 T7.out)
  have BW := hide (bthen B7.out B13.out)
  clear hown13 hgrow13 HS7 HX7 HA12 R12 B12 T7 T10
  go_wp2_with fail
  go_loopw [10] (fun i wr => ∃ k : Nat, k ≤ ms.length ∧ i = .int .i64 k ∧ Below w13.heap.size w13 wr) (fun i _ => ms.length - (intOf i).toNat)
  case atStart => exact ⟨0, Nat.zero_le _, rfl, Below.refl _ _⟩
  case round =>
    obtain ⟨k, hk, rfl, hbr⟩ := hrel
    by_cases hlt : k < ms.length
    · have hcell : w13.cell? ⟨g13, k, none⟩ = some (.int .u32 ms[k]) := by
        rw [R13.out.cellAt k (by omega)]
        simp [Ad.u32s, hlt]
      have hc2 : wr.cell? ⟨g13, k, none⟩ = some (.int .u32 ms[k]) := by
        rw [hbr.cell (p := ⟨g13, k, none⟩) (block_lt_of_cell hcell)]; exact hcell
      have hek := hide (HA13.out ms[k] (List.getElem_mem hlt))
      generalize ms[k] = t at *
      have ht0 : 0 ≤ t := hek.out.1
      have ht1 : t ≤ 4294967295 := hek.out.2
      obtain ⟨r, hr⟩ : ∃ r : Bool, r = true ↔ Ad.cov l t := ⟨@decide (Ad.cov l t) (Classical.propDecidable _), by simp⟩
      have hhq := Ad.has_inn (qa, qd) t HM.out
      have HSq := hide (Ad.slot_below HS13.out hbr)
      have HXq := hide (Ad.slot_below HX13.out hbr)
      obtain ⟨q0, q1, _, _⟩ := two_step hbr T13.out
      have c0 := fun dd os => cell_regrown hc2 dd os
      have c1 := fun dd os => cell_regrown q0 dd os
      have c2 := fun dd os => cell_regrown q1 dd os
      cases hq : Ad.has qa qd t
      all_goals cases r
      all_goals
        obtain ⟨s, hs⟩ : ∃ s : Bool, s = true ↔ Ad.cov zs t := ⟨@decide (Ad.cov zs t) (Classical.propDecidable _), by simp⟩
        have hval := HCV.out t
        simp only [hq] at hhq
        rw [← hhq, ← hr, ← hs] at hval
        simp at hval
        subst hval
        have HIX := hide (fun (W : World) (hW : Ad.slot W ax zs) => refIn_slot ax cx zs t _ W hW HGX.out (by omega) ht0 ht1 hs)
        have HIL := hide (fun (W : World) (hW : Ad.slot W ao l) => refIn_slot ao c l t _ W hW HG.out (by omega) ht0 ht1 hr)
        clear hcell hc2 hr hek hs hhq
        go_wp2_with fail
        refine wp_region_quiet_below (by kernel_rfl) (by kernel_rfl) ?_
        iterate 6 (go_big_quiet_step ((go_at_call 10; exact Calls.regrown_of (HIX.out _ (Ad.slot_below HXq.out (below_regrown _ _ _))))))
        iterate 6 (go_big_quiet_step ((go_at_call 10; exact Calls.regrown_of (HIL.out _ (Ad.slot_below HSq.out (below_regrown _ _ _))))))
        repeat (go_big_quiet_step ((go_at_call 11; exact Calls.regrown_of (refHas_is _ _ _ _ hq _ hq0 hq1 ht0 ht1 HM.out))))
        refine wpQuiet_nil ?_
        rintro w14 ⟨⟨dd, os⟩, hw14⟩
        have hb14 : Below wr.heap.size wr w14 := by rw [hw14]; exact below_regrown _ dd os
        have B14 := hide (bthen hbr hb14)
        clear hb14 hw14 c0 c1 c2 q0 q1
        go_wp2_with fail
        exact ⟨⟨k + 1, by omega, by go_num, B14.out⟩, by simp [intOf]; omega⟩
    · go_wp2_with fail
      refine (lives_any _).mono ?_
      rintro e w15 ⟨rfl, hb15⟩
      have B15 := hide (bthen (bthen BW.out hbr) hb15)
      go_wp2_with fail
      go_ret
      exact ⟨rfl, B15.out⟩

theorem law3_any (ao : Option Addr) (c : Nat) (l : List (Int × Int)) (qa qd x : Int) (w : World) (hS : Ad.slot w ao l) (hf : Ad.fits l) (hq0 : 0 ≤ qa) (hq1 : qa ≤ 4294967295) (hx0 : 0 ≤ x) (hx1 : x ≤ 4294967295) :
    Calls Tryd.prog 3 #[.slice ao l.length c, .agg #[.int .u32 qa, .int .i64 qd], .int .u32 x] w fun e w' => e = .returned (.bool true) ∧ Below w.heap.size w w' := by
  by_cases h1 : 1024 < l.length
  · exact law3_long ao l.length c qa qd x w h1
  · by_cases h2 : 30 < l.length
    · exact law3_mid ao l.length c qa qd x w h2 (by omega)
    · by_cases hw : Ad.why l = 0
      · cases hm : Ad.may qa qd
        · exact law3_none ao c l qa qd x w hS (Ad.why_ok hf hw) (by omega) hq0 hq1 hm
        · exact law3_good ao c l qa qd x w hS (Ad.why_ok hf hw) (by omega) hq0 hq1 hm hx0 hx1
      · exact law3_bad ao c l qa qd x w hS hf (by omega) hw
end Go.Proofs.YtfkajefminopjabDoor
