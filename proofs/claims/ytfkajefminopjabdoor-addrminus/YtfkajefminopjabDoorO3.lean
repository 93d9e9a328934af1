/- The contract of the document's own IsPlain, of a plain list. -/
import Derived.Test.YtfkajefminopjabDoorO2
import Derived.Test.YtfkajefminopjabDoorI2
import Derived.Test.YtfkajefminopjabDoorK1
namespace Go.Proofs.YtfkajefminopjabDoor
open Go.RowKit

theorem refUp_is (a : Int) (c : Nat) (u : Int) (w : World) (h0 : 0 ≤ a) (h1 : a ≤ 4294967295) (hc : c ≤ 31) (h : Ad.cut a c = u) :
    Calls Tryd.prog 22 #[.agg #[.int .u32 a, .int .i64 ((c : Int) + 1)]] w fun e w' => e = .returned (.agg #[.int .u32 u, .int .i64 c]) ∧ Below w.heap.size w w' := by
  rw [← h]; exact refUp_any a c w h0 h1 hc

theorem Ad.before_true (p q : Int × Int) (hp : Ad.may p.1 p.2 = true) (hq : Ad.may q.1 q.2 = true) (h : Ad.hi p ≤ q.1) : Ad.before p.1 p.2 q.1 q.2 = true := by
  have := Ad.before_hi p q h
  unfold Ad.before
  rw [hp, hq, if_neg (by omega)]
  simpa using this

set_option maxHeartbeats 8000000 in
set_option maxRecDepth 100000 in
theorem refIsPlain_yes (b off cap : Nat) (l : List (Int × Int)) (w : World) (hR : Ad.reads w b off l) (hp : Ad.plain l) (hlen : l.length ≤ 1000000) :
    Calls Tryd.prog 8 #[.slice (some ⟨b, off, none⟩) l.length cap] w fun e w' => e = .returned (.bool true) ∧ Below w.heap.size w w' := by
  have HR := hide hR
  have HP := hide hp
  clear hR hp
  go_enter Tryd.func8, Tryd.ntmps8
  go_wp2_with fail
  go_loopw [3] (fun i wr => ∃ k : Nat, k ≤ l.length ∧ i = .int .i64 k ∧ Below w.heap.size w wr) (fun i _ => l.length - (intOf i).toNat)
  case atStart => exact ⟨0, Nat.zero_le _, rfl, brefl w⟩
  case round =>
    obtain ⟨k, hk, rfl, hbr⟩ := hrel
    by_cases hlt : k < l.length
    · obtain ⟨e0, e1⟩ := Ad.reads_at (Ad.reads_below HR.out hbr) k hlt
      have hg := hide (HP.out.1 l[k] (List.getElem_mem hlt))
      have HQ : Hid (∀ j (hj : j < k), Ad.hi (l[j]'(by omega)) ≤ l[k].1 ∧ Ad.pair (l[j]'(by omega)) l[k] = false) := fun j hj => Ad.plain_at l HP.out j k hlt hj
      generalize hx : l[k] = x at *
      obtain ⟨a, d⟩ := x
      have HX := hide hx
      clear hx
      have ha : 0 ≤ a := hg.out.1
      have ha2 : a ≤ 4294967295 := hg.out.2.1
      have M := hide hg.out.2.2
      have c0 := fun dd os => cell_regrown e0 dd os
      have c1 := fun dd os => cell_regrown e1 dd os
      rcases k with _ | m
      · simp only [Nat.zero_mul, Nat.add_zero] at c0 c1
        go_wp2_with fail
        refine wp_region_quiet_below (by kernel_rfl) (by kernel_rfl) ?_
        repeat (go_big_quiet_step ((go_at_call 7; exact Calls.regrown_of (refMay_is _ _ _ M.out _ ha ha2))))
        refine wpQuiet_nil ?_
        rintro w1 ⟨⟨dd, os⟩, hw1⟩
        have hb1 : Below wr.heap.size wr w1 := by rw [hw1]; exact below_regrown _ dd os
        have B1 := hide (bthen hbr hb1)
        clear hb1 hw1 c0 c1 e0 e1
        go_wp2_with fail
        go_loopw [4] (fun i wx => i = .int .i64 0 ∧ Below w.heap.size w wx) (fun _ _ => 0)
        case atStart => exact ⟨rfl, B1.out⟩
        case round =>
          obtain ⟨rfl, hbx⟩ := hrel
          go_wp2_with fail
          exact ⟨⟨1, by omega, by go_num, hbx⟩, by simp [intOf]; omega⟩
      · have hm : m < l.length := by omega
        obtain ⟨f0, f1⟩ := Ad.reads_at (Ad.reads_below HR.out hbr) m hm
        have hgm := hide (HP.out.1 l[m] (List.getElem_mem hm))
        have hqm := hide (HQ.out m (by omega))
        generalize hy : l[m] = y at *
        obtain ⟨a', d'⟩ := y
        have BT := hide (Ad.before_true (a', d') (a, d) hgm.out.2.2 M.out hqm.out.1)
        have M' := hide hgm.out.2.2
        have c2 := fun dd os => cell_regrown f0 dd os
        have c3 := fun dd os => cell_regrown f1 dd os
        clear hy hqm
        go_wp2_with fail
        refine wp_region_quiet_below (by kernel_rfl) (by kernel_rfl) ?_
        repeat (go_big_quiet_step (first | (go_at_call 7; exact Calls.regrown_of (refMay_is _ _ _ M.out _ ha ha2)) | (go_at_call 20; exact Calls.regrown_of (refBefore_is _ _ _ _ _ BT.out M'.out M.out _))))
        refine wpQuiet_nil ?_
        rintro w1 ⟨⟨dd, os⟩, hw1⟩
        have hb1 : Below wr.heap.size wr w1 := by rw [hw1]; exact below_regrown _ dd os
        have B1 := hide (bthen hbr hb1)
        clear hb1 hw1 c0 c1 e0 e1 c2 c3 f0 f1 hgm BT M'
        go_wp2_with fail
        go_loopw [4] (fun i wx => ∃ j : Nat, j ≤ m + 1 ∧ i = .int .i64 j ∧ Below w.heap.size w wx) (fun i _ => m + 1 - (intOf i).toNat)
        case atStart => exact ⟨0, by omega, rfl, B1.out⟩
        case round =>
          obtain ⟨j, hj, rfl, hbx⟩ := hrel
          by_cases hjk : j < m + 1
          · have hjl : j < l.length := by omega
            obtain ⟨e0, e1⟩ := Ad.reads_at (Ad.reads_below HR.out hbx) (m + 1) hlt
            obtain ⟨f0, f1⟩ := Ad.reads_at (Ad.reads_below HR.out hbx) j hjl
            rw [HX.out] at e0 e1
            have hgj := hide (HP.out.1 l[j] (List.getElem_mem hjl))
            have hqj := hide (HQ.out j hjk)
            generalize hy : l[j] = y at *
            obtain ⟨a', d'⟩ := y
            have ha' : 0 ≤ a' := hgj.out.1
            have ha2' : a' ≤ 4294967295 := hgj.out.2.1
            obtain ⟨D1, D2⟩ := Ad.disjoint_not (a', d') (a, d) hgj.out.2.2 M.out hqj.out.1
            have DD1 := hide D1
            have DD2 := hide D2
            have c0 := fun dd os => cell_regrown e0 dd os
            have c1 := fun dd os => cell_regrown e1 dd os
            have c2 := fun dd os => cell_regrown f0 dd os
            have c3 := fun dd os => cell_regrown f1 dd os
            have hji : (j : Int) < (m : Int) + 1 := by omega
            clear hy D1 D2
            by_cases hbits : d' = d
            · obtain ⟨u1, u2, u3⟩ := Ad.ups (a', d') (a, d) hgj.out hg.out hqj.out.1 hqj.out.2 hbits
              simp only at u1 u2 u3
              obtain ⟨c, hc⟩ := Int.eq_ofNat_of_zero_le (show 0 ≤ d' - 1 by omega)
              obtain rfl : d' = (c : Int) + 1 := by omega
              obtain rfl : d = (c : Int) + 1 := by omega
              have hc31 : c ≤ 31 := by omega
              have ec : (c : Int) + 1 - 1 = (c : Int) := by omega
              rw [ec] at u3
              generalize hv : Ad.cut a' c = v at u3
              generalize hv2 : Ad.cut a c = v2 at u3
              have V := hide hv
              have V2 := hide hv2
              have hgd := guardP
              have heq : ∀ w, (binOp .eql 25 (.agg #[.int .u32 v, .int .i64 (c : Int)]) (.agg #[.int .u32 v2, .int .i64 (c : Int)])).run Tryd.prog w = .ok (.bool false) w := by
                intro w; rw [eqP]; simp [u3]
              clear hv hv2 u1 u2 u3 hc ec hbits
              go_wp2_with fail
              refine wp_region_quiet_below (by kernel_rfl) (by kernel_rfl) ?_
              iterate 9 (go_big_quiet_step ((go_at_call 21; exact Calls.regrown_of (refContains_is a' _ a _ _ DD1.out _ ha' ha2' ha ha2))))
              iterate 10 (go_big_quiet_step ((go_at_call 21; exact Calls.regrown_of (refContains_is a _ a' _ _ DD2.out _ ha ha2 ha' ha2'))))
              iterate 19 (go_big_quiet_step ((go_at_call 22; exact Calls.regrown_of (refUp_is a' c v _ ha' ha2' hc31 V.out))))
              iterate 5 (go_big_quiet_step ((go_at_call 22; exact Calls.regrown_of (refUp_is a c v2 _ ha ha2 hc31 V2.out))))
              repeat (go_big_quiet_step (fail))
              refine wpQuiet_nil ?_
              rintro w3 ⟨⟨dd, os⟩, hw3⟩
              have hb3 : Below wr.heap.size wr w3 := by rw [hw3]; exact below_regrown _ dd os
              have B3 := hide (bthen hbx hb3)
              clear hb3 hw3 c0 c1 c2 c3 e0 e1 f0 f1 heq hgd
              go_wp2_with fail
              exact ⟨⟨j + 1, by omega, by go_num, B3.out⟩, by simp [intOf]; omega⟩
            · have hbe : (d' == d) = false := by simpa using hbits
              go_wp2_with fail
              refine wp_region_quiet_below (by kernel_rfl) (by kernel_rfl) ?_
              iterate 9 (go_big_quiet_step ((go_at_call 21; exact Calls.regrown_of (refContains_is a' _ a _ _ DD1.out _ ha' ha2' ha ha2))))
              iterate 10 (go_big_quiet_step ((go_at_call 21; exact Calls.regrown_of (refContains_is a _ a' _ _ DD2.out _ ha ha2 ha' ha2'))))
              repeat (go_big_quiet_step (fail))
              refine wpQuiet_nil ?_
              rintro w3 ⟨⟨dd, os⟩, hw3⟩
              have hb3 : Below wr.heap.size wr w3 := by rw [hw3]; exact below_regrown _ dd os
              have B3 := hide (bthen hbx hb3)
              clear hb3 hw3 c0 c1 c2 c3 e0 e1 f0 f1
              go_wp2_with fail
              exact ⟨⟨j + 1, by omega, by go_num, B3.out⟩, by simp [intOf]; omega⟩
          · have hji : ¬ (j : Int) < (m : Int) + 1 := by omega
            go_wp2_with fail
            exact ⟨⟨m + 1 + 1, by omega, by go_num, hbx⟩, by simp [intOf]; omega⟩
    · go_wp2_with fail
      go_ret
      exact ⟨rfl, hbr⟩
end Go.Proofs.YtfkajefminopjabDoor
