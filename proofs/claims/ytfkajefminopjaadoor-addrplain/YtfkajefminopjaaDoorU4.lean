/- The law AddrPlain, walked: prefixes that may be. -/
import Derived.Test.YtfkajefminopjaaDoorU3
namespace Go.Proofs.YtfkajefminopjaaDoor
open Go.RowKit

theorem Ad.take_rev (l : List (Int × Int)) (k : Nat) (h : k < l.length) : l.reverse.take (k + 1) = l.reverse.take k ++ [l[l.length - 1 - k]'(by omega)] := by
  rw [List.take_succ_eq_append_getElem (by simpa using h), List.getElem_reverse]

theorem Ad.cells_append' (x y : List (Int × Int)) : Ad.cells (x ++ y) = Ad.cells x ++ Ad.cells y := by simp [Ad.cells]

set_option maxHeartbeats 2000000 in
set_option maxRecDepth 100000 in
theorem law8_good (ao : Option Addr) (c : Nat) (l : List (Int × Int)) (x : Int) (w : World) (hS : Ad.slot w ao l) (hg : Ad.good l) (h1 : l.length ≤ 40) (hx0 : 0 ≤ x) (hx1 : x ≤ 4294967295) :
    Calls Tryd.prog 8 #[.slice ao l.length c, .int .u32 x] w fun e w' => e = .returned (.bool true) ∧ Below w.heap.size w w' := by
  have g1 : ¬ (40 : Int) < (l.length : Int) := by omega
  obtain ⟨i0, hi, hz0, hz1, hz2⟩ := info_parts infoPrefix
  obtain ⟨i1, hi', hy0, hy1, hy2⟩ := info_parts infoU32
  have HS := hide hS
  have HG := hide hg
  have HF : Hid (Ad.fits l) := fun y hy => ⟨(hg y hy).1, (hg y hy).2.1⟩
  clear hS hg
  go_enter Tryd.func8, Tryd.ntmps8
  go_wp2_with fail
  refine (plain_good ao c l _ HS.out HG.out (by omega)).mono ?_
  rintro e w1 ⟨xs, ax, cx, hmade, rfl, hsx, hb1⟩
  have HM := hide hmade
  have HX := hide hsx
  have HS1 := hide (Ad.slot_below HS.out hb1)
  have HPX := hide (Ad.made_plain HG.out hmade)
  clear hmade hsx
  go_wp2_with fail
  refine (refWhy_slot ao c l _ HS1.out HF.out (by omega)).mono ?_
  rintro e w2 ⟨rfl, hb2⟩
  rw [Ad.why_good HG.out (by omega)]
  have B2 := hide (bthen hb1 hb2)
  have HS2 := hide (Ad.slot_below HS1.out hb2)
  have HX2 := hide (Ad.slot_below HX.out hb2)
  clear hb1 hb2 HS HS1 HX
  go_wp2_with fail
  go_loopw [7, 8] (fun v i wr => ∃ k : Nat, k ≤ l.length ∧ i = .int .i64 ((l.length : Int) - 1 - k) ∧ (∃ ab cb, v = .slice ab k cb) ∧ wr.ownsRow w2.heap.size 24 2 v k (Ad.cells (l.reverse.take k)) ∧ Below w2.heap.size w2 wr) (fun _ i _ => (intOf i + 1).toNat)
  case atStart =>
    exact ⟨0, Nat.zero_le _, by simp, ⟨none, 0, rfl⟩, World.ownsRow_nil _ _ _ _, Below.refl _ _⟩
  case round =>
    obtain ⟨k, hk, rfl, ⟨ab, cb, rfl⟩, ho, hbr⟩ := hrel
    have HO := hide ho
    clear ho
    by_cases hlt : k < l.length
    · obtain ⟨b, off, rfl, hrd⟩ : ∃ b off, ao = some ⟨b, off, none⟩ ∧ Ad.reads w2 b off l := by
        rcases HS2.out with ⟨_, h⟩ | h
        · rw [h] at hlt; simp at hlt
        · exact h
      obtain ⟨j, hj⟩ : ∃ j, j = l.length - 1 - k := ⟨_, rfl⟩
      have hjl : j < l.length := by omega
      obtain ⟨e0, e1⟩ := Ad.reads_at (Ad.reads_below hrd hbr) j hjl
      have hT := hide (Ad.take_rev l k hlt)
      have hji : (l.length : Int) - 1 - (k : Int) = (j : Int) := by omega
      rw [hji]
      have HJ := hide hj
      have HJI := hide hji
      have hTe : Hid (l.reverse.take (k + 1) = l.reverse.take k ++ [l[j]]) := by
        have := hT.out
        subst hj
        exact this
      clear hrd hj hji hT
      generalize l[j] = y at *
      obtain ⟨a, d⟩ := y
      go_wp2_with (at_builtin; go_must (refine wpList_append_own _ rfl _ _ 39 rfl w2.heap.size 24 i0 (.agg #[.int .u32 0, .int .i64 0]) 2 16 Tryd.underlying39 hi hz0 hz1 hz2 rfl (by decide) _ k (Ad.cells (l.reverse.take k)) rfl ?c0 ⟨wr.heap.size, 0, none⟩ 1 1 (Ad.enc (a, d)) rfl rfl ?c1 ?c2 ?c3 ?c4 ?c5 ?_))
      case c0 => exact HO.out.alloc _
      case c1 =>
        intro j u hj
        match j, hj with
        | 0, hj => simp [Ad.enc] at hj; subst hj; simp [go_sem]
        | 1, hj => simp [Ad.enc] at hj; subst hj; simp [go_sem]
      case c2 => intro u hu; simp [Ad.enc] at hu; rcases hu with rfl | rfl <;> rfl
      case c3 => unfold maxLen; omega
      case c4 => omega
      case c5 => have := hbr.size; simp; omega
      intro v3 w3 hown3 hgrow3 _
      have hb3 := hide (Below.grown (row := Value.ownBlock (.slice ab k cb)) (hbr.alloc hbr.size _) hgrow3 (by have := hbr.size; simp; omega) (fun k hk => (HO.out.lt k hk).1))
      have R3 := hide hown3
      clear hown3 hgrow3
      go_wp2_with fail
      refine ⟨⟨k + 1, by omega, ?_, row_slice R3.out, ?_, hb3.out⟩, by simp [intOf]⟩
      · have := HJI.out
        congr 1
        first | omega | (simp [IntKind.wrap_i64']; omega)
      · rw [hTe.out, Ad.cells_append']
        have e : Ad.cells [(a, d)] = Ad.enc (a, d) := by simp [Ad.cells]
        rw [e]
        exact R3.out
    · have hkl : k = l.length := by omega
      subst hkl
      have hlx : xs.length ≤ 40 := by have := HPX.out.2.2.2; omega
      have hsb : Ad.slot wr ab l.reverse := by
        have := HO.out
        rw [List.take_of_length_le (by simp)] at this
        exact Ad.slot_own this
      have hP := plain_good ab cb l.reverse wr hsb (fun y hy => HG.out y (List.mem_reverse.1 hy)) (by simp; omega)
      rw [List.length_reverse] at hP
      have HPP := hide hP
      have HSr := hide (Ad.slot_below HS2.out hbr)
      have HXr := hide (Ad.slot_below HX2.out hbr)
      have Br := hide (bthen B2.out hbr)
      clear hP hsb HO HS2 HX2 hbr B2
      go_wp2_with fail
      refine HPP.out.mono ?_
      rintro e w3 ⟨ys, ay, cy, hmy, rfl, hsy, hb3⟩
      obtain rfl : ys = xs := (Ad.made_same HG.out (List.reverse_perm l).symm HM.out hmy).symm
      have HS3 := hide (Ad.slot_below HSr.out hb3)
      have HX3 := hide (Ad.slot_below HXr.out hb3)
      have HY3 := hide hsy
      have B3 := hide (bthen Br.out hb3)
      clear hmy hsy hb3 HSr HXr Br HPP
      go_wp2_with fail
      refine (plain_good ax cx ys _ HX3.out HPX.out.2.1 (by omega)).mono ?_
      rintro e w4 ⟨zs, az, cz, hmz, rfl, hsz, hb4⟩
      obtain rfl : zs = ys := Ad.made_self HPX.out.1 hmz
      have HS4 := hide (Ad.slot_below HS3.out hb4)
      have HX4 := hide (Ad.slot_below HX3.out hb4)
      have HY4 := hide (Ad.slot_below HY3.out hb4)
      have HZ4 := hide hsz
      have B4 := hide (bthen B3.out hb4)
      clear hmz hsz hb4 HS3 HX3 HY3 B3
      go_wp2_with fail
      refine (refIsPlain_slot ax cx zs _ HX4.out HPX.out.1 (by omega)).mono ?_
      rintro e w5 ⟨rfl, hb5⟩
      have HS5 := hide (Ad.slot_below HS4.out hb5)
      have HX5 := hide (Ad.slot_below HX4.out hb5)
      have HY5 := hide (Ad.slot_below HY4.out hb5)
      have HZ5 := hide (Ad.slot_below HZ4.out hb5)
      have B5 := hide (bthen B4.out hb5)
      clear hb5 HS4 HX4 HY4 HZ4 B4
      go_wp2_with fail
      refine (same_yes ax ay cx cy zs _ (by omega) HX5.out HY5.out).mono ?_
      rintro e w6 ⟨rfl, hb6⟩
      have HS6 := hide (Ad.slot_below HS5.out hb6)
      have HX6 := hide (Ad.slot_below HX5.out hb6)
      have HZ6 := hide (Ad.slot_below HZ5.out hb6)
      have B6 := hide (bthen B5.out hb6)
      clear hb6 HS5 HX5 HY5 HZ5 B5
      go_wp2_with fail
      refine (same_yes ax az cx cz zs _ (by omega) HX6.out HZ6.out).mono ?_
      rintro e w7 ⟨rfl, hb7⟩
      have HS7 := hide (Ad.slot_below HS6.out hb7)
      have HX7 := hide (Ad.slot_below HX6.out hb7)
      have B7 := hide (bthen B6.out hb7)
      clear hb7 HS6 HX6 HZ6 B6
      go_wp2_with fail
      refine (refEdges_slot ao c l _ HS7.out HG.out (by omega)).mono ?_
      rintro e w8 ⟨ge, ce, es, rfl, hes, hae, hoe, hb8⟩
      have HS8 := hide (Ad.slot_below HS7.out hb8)
      have HX8 := hide (Ad.slot_below HX7.out hb8)
      have B8 := hide (bthen B7.out hb8)
      have HOE := hide hoe
      have HAE := hide hae
      have BB8 := hide hb8
      have hes2 : es.length ≤ 200 := by omega
      clear hb8 hoe hae hes
      go_wp2_with fail
      refine (refEdges_slot ax cx zs _ HX8.out HPX.out.2.1 (by omega)).mono ?_
      rintro e w9 ⟨gf, cf, fs, rfl, hfs, haf, hof, hb9⟩
      have HS9 := hide (Ad.slot_below HS8.out hb9)
      have HX9 := hide (Ad.slot_below HX8.out hb9)
      have BB9 := hide (bthen BB8.out hb9)
      have HOE9 := hide (row_below HOE.out hb9)
      have HOF := hide hof
      have HAF := hide haf
      have hfs2 : fs.length ≤ 200 := by omega
      clear hb9 HS8 HX8 HS9 HX9 hof haf HOE BB8 hfs
      go_wp2_with (at_builtin; go_must (refine wpList_append_own _ rfl _ _ 45 rfl w7.heap.size 22 i1 (.int .u32 0) 1 4 Tryd.underlying45 hi' hy0 hy1 hy2 rfl (by decide) _ es.length (Ad.u32s es) rfl ?c0 ⟨gf, 0, none⟩ fs.length cf (Ad.u32s fs) rfl ?c00 ?c1 ?c2 ?c3 ?c4 ?c5 ?_))
      case c0 => exact HOE9.out
      case c00 => simp [Ad.u32s]
      case c1 =>
        intro j u hj
        have hjl : j < fs.length * 1 := by have := (List.getElem?_eq_some_iff.1 hj).1; simpa [Ad.u32s] using this
        rw [show (⟨gf, 0, none⟩ : Addr).add j = ⟨gf, j, none⟩ by unfold Addr.add; split <;> simp_all, HOF.out.cellAt j hjl]
        exact hj
      case c2 => exact Ad.u32s_one _
      case c3 => unfold maxLen; omega
      case c4 => omega
      case c5 => exact BB9.out.size
      intro v10 w10 hown10 hgrow10 _
      have hge : w7.heap.size ≤ ge := (HOE9.out.lt ge rfl).1
      have B10 := hide (Below.grown (row := Value.ownBlock (.slice (some ⟨ge, 0, none⟩) es.length ce)) BB9.out hgrow10 BB9.out.size (fun k hk => (HOE9.out.lt k hk).1))
      obtain ⟨a10, c10, rfl⟩ := row_slice hown10
      have R10 : Hid (w10.ownsRow w7.heap.size 22 1 (.slice a10 (es ++ fs).length c10) (es ++ fs).length (Ad.u32s (es ++ fs))) := by
        show World.ownsRow _ _ _ _ _ _ _
        rw [Ad.u32s_append, List.length_append]
        exact hown10
      have HA10 := hide (Ad.addrs_append HAE.out HAF.out)
      have hlen10 : (es ++ fs).length ≤ 400 := by rw [List.length_append]; omega
      rw [← List.length_append]
      generalize es ++ fs = gs at *
      clear hown10 hgrow10 HOE9 HOF HAE HAF BB9 hge
      go_wp2_with (at_builtin; go_must (refine wpList_append_own _ rfl _ _ 45 rfl w7.heap.size 22 i1 (.int .u32 0) 1 4 Tryd.underlying45 hi' hy0 hy1 hy2 rfl (by decide) _ gs.length (Ad.u32s gs) rfl ?c0 ⟨w10.heap.size, 0, none⟩ 1 1 (Ad.u32s [x]) rfl rfl ?c1 ?c2 ?c3 ?c4 ?c5 ?_))
      case c0 => exact R10.out.alloc _
      case c1 =>
        intro j u hj
        match j, hj with
        | 0, hj => simp [Ad.u32s] at hj; subst hj; simp [Addr.add, go_sem]
      case c2 => exact Ad.u32s_one _
      case c3 => unfold maxLen; omega
      case c4 => omega
      case c5 => have := B10.out.size; simp; omega
      intro v11 w11 hown11 hgrow11 _
      have B11 := hide (Below.grown (row := Value.ownBlock (.slice a10 gs.length c10)) (B10.out.alloc B10.out.size _) hgrow11 (by have := B10.out.size; simp; omega) (fun k hk => (R10.out.lt k hk).1))
      obtain ⟨g11, c11, hv11, _⟩ := hown11.form (by omega)
      subst hv11
      have R11 : Hid (w11.ownsRow w7.heap.size 22 1 (.slice (some ⟨g11, 0, none⟩) (gs ++ [x]).length c11) (gs ++ [x]).length (Ad.u32s (gs ++ [x]))) := by
        show World.ownsRow _ _ _ _ _ _ _
        rw [Ad.u32s_append, List.length_append]
        exact hown11
      have HA11 : Hid (Ad.addrs (gs ++ [x])) := Ad.addrs_append HA10.out (fun e he => by rw [List.mem_singleton.1 he]; exact ⟨hx0, hx1⟩)
      have hlen11 : (gs ++ [x]).length ≤ 500 := by rw [List.length_append]; simp; omega
      have hl11 : gs.length + 1 = (gs ++ [x]).length := by simp
      rw [hl11]
      clear hl11
      generalize gs ++ [x] = hs at *
      have HS11 := hide (Ad.slot_below HS7.out B11.out)
      have HX11 := hide (Ad.slot_below HX7.out B11.out)
      have BW := hide (bthen B7.out B11.out)
      clear hown11 hgrow11 HS7 HX7 HA10 R10 B10
      go_wp2_with fail
      go_loopw [14] (fun i wr => ∃ k : Nat, k ≤ hs.length ∧ i = .int .i64 k ∧ Below w11.heap.size w11 wr) (fun i _ => hs.length - (intOf i).toNat)
      case atStart => exact ⟨0, Nat.zero_le _, rfl, Below.refl _ _⟩
      case round =>
        obtain ⟨k, hk, rfl, hbr⟩ := hrel
        by_cases hlt : k < hs.length
        · have hcell : w11.cell? ⟨g11, k, none⟩ = some (.int .u32 hs[k]) := by
            rw [R11.out.cellAt k (by omega)]
            simp [Ad.u32s, hlt]
          have hc2 : wr.cell? ⟨g11, k, none⟩ = some (.int .u32 hs[k]) := by
            rw [hbr.cell (p := ⟨g11, k, none⟩) (block_lt_of_cell hcell)]; exact hcell
          have hek := hide (HA11.out hs[k] (List.getElem_mem hlt))
          generalize hs[k] = t at *
          have ht0 : 0 ≤ t := hek.out.1
          have ht1 : t ≤ 4294967295 := hek.out.2
          obtain ⟨r, hr⟩ : ∃ r : Bool, r = true ↔ Ad.cov l t := ⟨@decide (Ad.cov l t) (Classical.propDecidable _), by simp⟩
          have HR1 := hide hr
          have HR2 := hide (hr.trans (HPX.out.2.2.1 t).symm)
          have HSq := hide (Ad.slot_below HS11.out hbr)
          have HXq := hide (Ad.slot_below HX11.out hbr)
          have c0 := fun dd os => cell_regrown hc2 dd os
          clear hcell hc2 hr hek
          go_wp2_with fail
          refine wp_region_quiet_below (by kernel_rfl) (by kernel_rfl) ?_
          iterate 6 (go_big_quiet_step ((go_at_call 32; exact Calls.regrown_of (refIn_slot ao c l t r _ (Ad.slot_below HSq.out (below_regrown _ _ _)) HG.out (by omega) ht0 ht1 HR1.out))))
          repeat (go_big_quiet_step ((go_at_call 32; exact Calls.regrown_of (refIn_slot ax cx zs t r _ (Ad.slot_below HXq.out (below_regrown _ _ _)) HPX.out.2.1 (by omega) ht0 ht1 HR2.out))))
          refine wpQuiet_nil ?_
          rintro w12 ⟨⟨dd, os⟩, hw12⟩
          have hb12 : Below wr.heap.size wr w12 := by rw [hw12]; exact below_regrown _ dd os
          have B12 := hide (bthen hbr hb12)
          clear hb12 hw12 c0
          cases r
          all_goals
            go_wp2_with fail
            exact ⟨⟨k + 1, by omega, by go_num, B12.out⟩, by simp [intOf]; omega⟩
        · go_wp2_with fail
          refine (lives_any _).mono ?_
          rintro e w13 ⟨rfl, hb13⟩
          have B13 := hide (bthen (bthen BW.out hbr) hb13)
          go_wp2_with fail
          go_ret
          exact ⟨rfl, B13.out⟩

theorem law8_any (ao : Option Addr) (c : Nat) (l : List (Int × Int)) (x : Int) (w : World) (hS : Ad.slot w ao l) (hf : Ad.fits l) (hx0 : 0 ≤ x) (hx1 : x ≤ 4294967295) :
    Calls Tryd.prog 8 #[.slice ao l.length c, .int .u32 x] w fun e w' => e = .returned (.bool true) ∧ Below w.heap.size w w' := by
  by_cases h1 : 1024 < l.length
  · exact law8_long ao l.length c x w h1
  · by_cases h2 : 40 < l.length
    · exact law8_mid ao l.length c x w h2 (by omega)
    · by_cases hw : Ad.why l = 0
      · exact law8_good ao c l x w hS (Ad.why_ok hf hw) (by omega) hx0 hx1
      · exact law8_bad ao c l x w hS hf (by omega) hw
end Go.Proofs.YtfkajefminopjaaDoor
