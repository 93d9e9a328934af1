/- The document's with, of one that isn't there. -/
import Derived.Test.YtgebfgjeckdngaaDoorY1
namespace Go.Proofs.YtgebfgjeckdngaaDoor
open Go.RowKit Go.Sort Go.Lib

theorem Co.uni_ins' {l : List Co.C} {c : Co.C} {k : Nat} (hr : Co.rises l) (h : Co.inL l c = false) (hlo : ∀ x ∈ l.take k, Co.bef x c = true) (hhi : ∀ hk : k < l.length, Co.bef l[k] c = false) : Co.uni l [c] (l.take k ++ c :: l.drop k) := by
  have := Co.uni_ins hr h hlo hhi
  rwa [List.append_assoc, List.singleton_append] at this
theorem came_if (p : Prop) [Decidable p] (b o o2 c : Nat) : Co.came (if p then some ⟨b, o, none⟩ else some ⟨b, o2, none⟩) c := by
  split <;> exact came_some _ _ _

set_option maxHeartbeats 8000000 in
set_option maxRecDepth 100000 in
theorem with_new (b off : Nat) (ca : Nat) (l : List Co.C) (c d : Int) (w : World) (hs : Co.sl w (some ⟨b, off, none⟩) ca l) (hr : Co.rises l) (hlen : l.length ≤ 1000) (hi : Co.inL l (c, d) = false) :
    Calls Tryd.prog 51 #[.slice (some ⟨b, off, none⟩) l.length ca, .agg #[.int .i64 c, .int .i64 d]] w (WithGood w (some ⟨b, off, none⟩) l (c, d)) := by
  have B0 := hide (balloc (brefl w) (.cells #[.int .i64 c, .int .i64 d] 23))
  have T0 := hide (two_new w c d 23)
  have HS := hide (Co.sl_below hs B0.out)
  have hcap : l.length ≤ ca := hs.2.2
  have HI := hide hi
  have HR := hide hr
  have HS0 := hide hs
  clear hs hi hr
  go_enter Tryd.func51, Tryd.ntmps51
  go_wp2_with fail
  generalize w.alloc (.cells #[.int .i64 c, .int .i64 d] 23) = W0 at *
  generalize hRR : w.heap.size = R at T0 ⊢
  have HRR := hide hRR
  clear hRR
  refine (refIn_is (some ⟨b, off, none⟩) ca l c d false HI.out _ HS.out.1 (by omega)).mono ?_
  rintro e w1 ⟨rfl, hb1⟩
  have T1 := hide (two_below hb1 T0.out)
  have B1 := hide (bthen B0.out hb1)
  clear hb1
  go_wp2_with fail
  go_loopw [6] (fun v wr => ∃ k : Nat, v = .int .i64 k ∧ k ≤ l.length ∧ (∀ x ∈ l.take k, Co.bef x (c, d) = true) ∧ Below w1.heap.size w1 wr) (fun v _ => l.length - (intOf v).toNat)
  case atStart => exact ⟨0, rfl, Nat.zero_le _, fun x hx => by simp at hx, brefl w1⟩
  case round =>
    obtain ⟨k, rfl, hk, hall, hbr⟩ := hrel
    have HALL := hide hall
    have HBR := hide (bthen B1.out hbr)
    have T2 := hide (two_below hbr T1.out)
    clear hall
    obtain ⟨s0, s1⟩ := two_regrown T2.out
    by_cases hkl : k < l.length
    · have hkl' : (k : Int) < (l.length : Int) := by omega
      have hrd : Co.reads wr b off l := by
        rcases Co.slot_below HS0.out.1 HBR.out with h | ⟨b', off', h, hr⟩
        · rw [h] at hkl; simp at hkl
        · simp only [Option.some.injEq, Addr.mk.injEq, and_true] at h
          rw [h.1, h.2]; exact hr
      obtain ⟨e0, e1⟩ := Co.reads_at hrd k hkl
      clear hrd
      have HST : Hid (Co.bef l[k] (c, d) = true → ∀ x ∈ l.take (k + 1), Co.bef x (c, d) = true) := by
        show _ → _
        intro hb x hx
        rw [List.take_succ_eq_append_getElem hkl, List.mem_append] at hx
        rcases hx with hx | hx
        · exact HALL.out x hx
        · rw [List.mem_singleton] at hx; rw [hx]; exact hb
      have HHI : Hid (Co.bef l[k] (c, d) = false → ∀ hk : k < l.length, Co.bef l[k] (c, d) = false) := fun h _ => h
      generalize l[k] = u at e0 e1 HST HHI
      obtain ⟨u0, u1⟩ := u
      have r0 := fun dd os => cell_regrown e0 dd os
      have r1 := fun dd os => cell_regrown e1 dd os
      cases hbf : Co.bef (u0, u1) (c, d)
      · have HF := hide hbf
        go_wp2_with fail
        refine wp_region_quiet_below (by kernel_rfl) (by kernel_rfl) ?_
        repeat (go_big_quiet_step ((go_at_call 40; exact Calls.regrown_of (refBefore_is _ _ _ _ _ HF.out _))))
        refine wpQuiet_nil ?_
        rintro _ ⟨⟨dd, os⟩, rfl⟩
        have hb2 := below_regrown wr dd os
        generalize Sort.grow (redrawn wr dd) os = w2 at hb2
        have B2 := hide (bthen HBR.out hb2)
        have T3 := hide (two_below hb2 T2.out)
        clear hb2 r0 r1 s0 s1 e0 e1
        have HU := hide (Co.uni_ins' HR.out HI.out HALL.out (HHI.out hbf))
        have hkc : ¬ (ca : Int) < (k : Int) := by omega
        have hkc2 : ¬ (l.length : Int) < (k : Int) := by omega
        have S2 := hide (Co.slot_below HS0.out.1 B2.out)
        clear hbf
        have hlk : Hid ((l.take k).length = k) := by show _ = _; rw [List.length_take]; omega
        have hld : Hid ((l.drop k).length = l.length - k) := by show _ = _; rw [List.length_drop]
        have HC := hide HS0.out.2.1
        have STK := hide (Co.slot_take S2.out k)
        have SDK := hide (Co.slot_drop S2.out k hk)
        have HZ : Hid (w.heap.size ≤ w2.heap.size) := B2.out.size
        generalize l.take k = lt at *
        generalize l.drop k = ld at *
        go_wp2_with (at_builtin; go_must (refine append_listN (w0 := w2) rfl _ _ rfl _ 0 [] rfl (World.ownsRow_nil _ _ _ _) (some ⟨b, off, none⟩) k ca lt rfl hlk.out STK.out HC.out (by omega) (brefl w2) ?_))
        intro v3 w3 hn3 hb3
        obtain ⟨o3, c3, rfl⟩ := row_slice hn3
        have HN3 := hide hn3
        have T4 := hide (two_below hb3 T3.out)
        have B3 := hide hb3
        clear hn3 hb3
        obtain ⟨p0, p1, p2, p3⟩ := T4.out
        go_wp2_with (at_builtin; go_must (refine append_listN (w0 := w2) rfl _ _ rfl _ k lt rfl (HN3.out.alloc _) (some ⟨w3.heap.size, 0, none⟩) 1 1 [(c, d)] rfl rfl (Co.slot_one _ _ _ _ (two_new w3 c d 23)) (came_some _ _ _) (by omega) (balloc B3.out _) ?_))
        intro v4 w4 hn4 hb4
        obtain ⟨o4, c4, rfl⟩ := row_slice hn4
        have HN4 := hide hn4
        have B4 := hide hb4
        clear hn4 hb4 p0 p1 p2 p3
        go_wp2_with (at_builtin; go_must (refine append_listN (w0 := w2) rfl _ _ rfl _ (k + 1) (lt ++ [(c, d)]) rfl HN4.out (some ⟨b, off + k * 2, none⟩) (l.length - k) (ca - k) ld rfl hld.out (Co.slot_below SDK.out B4.out) (came_some _ _ _) (by omega) B4.out ?_))
        intro v5 w5 hn5 hb5
        obtain ⟨o5, c5, rfl⟩ := row_slice hn5
        have HN5 := hide hn5
        have B5 := hide (bthen B2.out hb5)
        have HL5 : Hid (k + 1 + (l.length - k) = (lt ++ (c, d) :: ld).length) := Co.own_len hn5
        clear hn5 hb5
        go_wp2_with fail
        rw [HL5.out] at HN5 ⊢
        exact bodyPost_ret (v := .slice o5 (lt ++ (c, d) :: ld).length c5) (by simp [results, Tryd.results51, go_sem]) rfl ⟨o5, c5, _, rfl, HU.out, Co.sl_own HN5.out, .inr (fun ad had => Nat.le_trans HZ.out (own_blk HN5.out ad had)), (by rw [← HL5.out]; omega), B5.out⟩
      · have HF := hide hbf
        go_wp2_with fail
        refine wp_region_quiet_below (by kernel_rfl) (by kernel_rfl) ?_
        repeat (go_big_quiet_step ((go_at_call 40; exact Calls.regrown_of (refBefore_is _ _ _ _ _ HF.out _))))
        refine wpQuiet_nil ?_
        rintro _ ⟨⟨dd, os⟩, rfl⟩
        have hb2 := below_regrown wr dd os
        generalize Sort.grow (redrawn wr dd) os = w2 at hb2
        have B2 := hide (bthen hbr hb2)
        clear hb2 r0 r1 s0 s1 e0 e1
        go_wp2_with fail
        exact ⟨⟨k + 1, by go_num, by omega, HST.out HF.out, B2.out⟩, by simp [intOf] <;> omega⟩
    · have hkl' : ¬ (k : Int) < (l.length : Int) := by omega
      have HU := hide (Co.uni_ins' HR.out HI.out HALL.out (fun h => absurd h hkl))
      go_wp2_with fail
      refine wp_region_quiet_below (by kernel_rfl) (by kernel_rfl) ?_
      repeat (go_big_quiet_step (fail))
      refine wpQuiet_nil ?_
      rintro _ ⟨⟨dd, os⟩, rfl⟩
      have hb2 := below_regrown wr dd os
      generalize Sort.grow (redrawn wr dd) os = w2 at hb2
      have B2 := hide (bthen HBR.out hb2)
      have T3 := hide (two_below hb2 T2.out)
      clear hb2 s0 s1
      have hkc : ¬ (ca : Int) < (k : Int) := by omega
      have hkc2 : ¬ (l.length : Int) < (k : Int) := by omega
      have S2 := hide (Co.slot_below HS0.out.1 B2.out)
      have hlk : Hid ((l.take k).length = k) := by show _ = _; rw [List.length_take]; omega
      have hld : Hid ((l.drop k).length = l.length - k) := by show _ = _; rw [List.length_drop]
      have HC := hide HS0.out.2.1
      have STK := hide (Co.slot_take S2.out k)
      have SDK := hide (Co.slot_drop S2.out k hk)
      have HZ : Hid (w.heap.size ≤ w2.heap.size) := B2.out.size
      generalize l.take k = lt at *
      have HLN : Hid (l.drop k = []) := List.drop_eq_nil_of_le (by omega)
      generalize l.drop k = ld at *
      go_wp2_with (at_builtin; go_must (refine append_listN (w0 := w2) rfl _ _ rfl _ 0 [] rfl (World.ownsRow_nil _ _ _ _) (some ⟨b, off, none⟩) k ca lt rfl hlk.out STK.out HC.out (by omega) (brefl w2) ?_))
      intro v3 w3 hn3 hb3
      obtain ⟨o3, c3, rfl⟩ := row_slice hn3
      have HN3 := hide hn3
      have T4 := hide (two_below hb3 T3.out)
      have B3 := hide hb3
      clear hn3 hb3
      obtain ⟨p0, p1, p2, p3⟩ := T4.out
      go_wp2_with (at_builtin; go_must (refine append_listN (w0 := w2) rfl _ _ rfl _ k lt rfl (HN3.out.alloc _) (some ⟨w3.heap.size, 0, none⟩) 1 1 [(c, d)] rfl rfl (Co.slot_one _ _ _ _ (two_new w3 c d 23)) (came_some _ _ _) (by omega) (balloc B3.out _) ?_))
      intro v4 w4 hn4 hb4
      obtain ⟨o4, c4, rfl⟩ := row_slice hn4
      have HN4 := hide hn4
      have B4 := hide hb4
      clear hn4 hb4 p0 p1 p2 p3
      go_wp2_with (at_builtin; go_must (refine append_listN (w0 := w2) rfl _ _ rfl _ (k + 1) (lt ++ [(c, d)]) rfl HN4.out (if ca = k then some ⟨b, off, none⟩ else some ⟨b, off + k * 2, none⟩) (l.length - k) (ca - k) ld rfl hld.out (.inl HLN.out) (came_if _ _ _ _ _) (by omega) B4.out ?_))
      all_goals
        intro v5 w5 hn5 hb5
        obtain ⟨o5, c5, rfl⟩ := row_slice hn5
        have HN5 := hide hn5
        have B5 := hide (bthen B2.out hb5)
        have HL5 : Hid (k + 1 + (l.length - k) = (lt ++ (c, d) :: ld).length) := Co.own_len hn5
        clear hn5 hb5
        go_wp2_with fail
        rw [HL5.out] at HN5 ⊢
        exact bodyPost_ret (v := .slice o5 (lt ++ (c, d) :: ld).length c5) (by simp [results, Tryd.results51, go_sem]) rfl ⟨o5, c5, _, rfl, HU.out, Co.sl_own HN5.out, .inr (fun ad had => Nat.le_trans HZ.out (own_blk HN5.out ad had)), (by rw [← HL5.out]; omega), B5.out⟩
end Go.Proofs.YtgebfgjeckdngaaDoor
